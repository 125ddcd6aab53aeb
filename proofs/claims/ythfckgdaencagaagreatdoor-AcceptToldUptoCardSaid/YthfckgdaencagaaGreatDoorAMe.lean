/-
  accept.readMedia, accept.Parse.
-/
import Derived.Test.YthfckgdaencagaaGreatDoorACp
set_option linter.unusedVariables false
set_option linter.unusedSimpArgs false
namespace Go.Proofs.YthfckgdaencagaaGreatDoor
open Go.RowKit Go.Shelf
namespace Ac
open Oc Tg

def mdT (o : Option Med) : List UInt8 := match o with | some x => x.1 | none => []
def mdS (o : Option Med) : List UInt8 := match o with | some x => x.2.1 | none => []
def mdP (o : Option Med) : List Prm := match o with | some x => x.2.2 | none => []
theorem OwnP.setBelow {T B : Nat} {v : Value} {t : List Prm} {w : World} (h : OwnP T B v t w) {a : Addr} (ha : a.block < B) (u : Value) : OwnP T B v t (w.setCell a u) := ownsRow_setCell_below h ha u
theorem cp_bd (l : List UInt8) : EachP l.length (cpP l) ∧ (cpP l).length ≤ l.length ∧ (cpH l).length ≤ l.length := by
  unfold cpP cpH
  cases h : cutP l with
  | none => exact ⟨(fun p hp => by cases hp), Nat.zero_le _, Nat.zero_le _⟩
  | some x =>
    unfold cutP at h
    split at h
    · cases h
      obtain ⟨_, _, b2, b3⟩ := params_bd (l.drop (hdLen l))
      rw [List.length_drop] at b2 b3
      refine ⟨(b2.low).mono (by omega), ?_, ?_⟩
      · show ((paramsR _).1.map lowP).length ≤ _
        rw [List.length_map]; omega
      · show (l.take _).length ≤ _
        rw [List.length_take]; omega
    · cases h
theorem med_none1 (l : List UInt8) (h : (cutP l).isSome = false) : med l = none := by
  unfold med
  cases hc : cutP l with
  | none => rfl
  | some x => rw [hc] at h; cases h
theorem med_none2 (l : List UInt8) (h : isTok (cutA 47 (cpH l)) = false ∨ isTok (cutB 47 (cpH l)) = false) : med l = none := by
  unfold med
  unfold cpH at h
  cases hc : cutP l with
  | none => rfl
  | some x =>
    rw [hc] at h
    dsimp only at h ⊢
    rw [if_neg]
    rw [Bool.and_eq_true]
    rintro ⟨h1, h2⟩
    rw [h1, h2] at h
    rcases h with h | h <;> cases h
theorem med_is (l : List UInt8) (h : (cutP l).isSome = true) (h1 : isTok (cutA 47 (cpH l)) = true) (h2 : isTok (cutB 47 (cpH l)) = true) : med l = some (lower (cutA 47 (cpH l)), lower (cutB 47 (cpH l)), cpP l) := by
  unfold med
  unfold cpH at *
  unfold cpP
  cases hc : cutP l with
  | none => rw [hc] at h; cases h
  | some x =>
    rw [hc] at h1 h2
    dsimp only at h1 h2 ⊢
    rw [if_pos (by rw [h1, h2]; rfl)]

set_option maxRecDepth 100000 in
set_option maxHeartbeats 2000000 in
theorem readMedia_any (s : ByteArray) (hs : s.size ≤ 134217728) (w : World) (hw : Env w) :
    Calls Tryz.prog 18 #[.string s] w fun e w' => ∃ v, e = .returned (.tuple #[.agg #[.string (str (mdT (med s.data.toList))), .string (str (mdS (med s.data.toList))), v], .bool (med s.data.toList).isSome]) ∧ OwnP 95 w.heap.size v (mdP (med s.data.toList)) w' ∧ Below w.heap.size w w' := by
  obtain ⟨w2, hw2⟩ : ∃ w2, w2 = w.alloc (.cells #[.string ⟨#[]⟩, .string ⟨#[]⟩, .slice none 0 0] 35) := ⟨_, rfl⟩
  have HR1 : Hid (w2.heap[w.heap.size]? = some (.cells #[.string ⟨#[]⟩, .string ⟨#[]⟩, .slice none 0 0] 35 (0, 0))) := by
    show _ = _; rw [hw2]; exact heap_alloc_new w _
  have hb2 : Below w.heap.size w w2 := by rw [hw2]; exact (Below.refl _ w).alloc (Nat.le_refl _) _
  have hz2 : w.heap.size < w2.heap.size := by rw [hw2]; simp
  have HB2 : Hid (Below w.heap.size w w2) := hb2
  have HE : Hid (Env w2) := hw.below hb2
  clear hb2 hw
  have HC : Hid (∀ w, Tab w → Calls Tryz.prog 37 #[.string s] w fun e w' => ∃ v, e = .returned (.tuple #[.string (str (cpH s.data.toList)), v, .bool (cutP s.data.toList).isSome]) ∧ OwnP 95 w.heap.size v (cpP s.data.toList) w' ∧ Below w.heap.size w w') := fun w t => cutParams_any s hs w t
  have hcl := (cp_bd s.data.toList).2.2
  rw [size_list] at hcl
  have HX : Hid (∀ w, ML w → Calls Tryz.prog 35 #[.string (str (cpH s.data.toList)), .string ⟨#[47]⟩] w fun e w' => e = .returned (.tuple #[.string (str (cutA 47 (cpH s.data.toList))), .string (str (cutB 47 (cpH s.data.toList))), .bool (has 47 (cpH s.data.toList))]) ∧ Below w.heap.size w w') := fun w h => by
    have := Cut_one (str (cpH s.data.toList)) 47 (by rw [str_size]; omega) w h
    rw [str_list] at this
    exact this
  have la := cutA_len 47 (cpH s.data.toList)
  have lb := cutB_len 47 (cpH s.data.toList)
  have tk : ∀ (l : List UInt8), l.length ≤ 134217728 → ∀ w, Tab w → Calls Tryz.prog 38 #[.string (str l)] w fun e w' => e = .returned (.bool (isTok l)) ∧ Below w.heap.size w w' := fun l hl w t => by
    have := IsToken_any (str l) (by rw [str_size]; unfold maxLen; omega) w t
    rw [str_list] at this
    exact this
  have lw : ∀ (l : List UInt8), l.length ≤ 134217728 → ∀ w, Calls Tryz.prog 39 #[.string (str l)] w fun e w' => e = .returned (.string (str (lower l))) ∧ Below w.heap.size w w' := fun l hl w => by
    have := Lower_any (str l) (by rw [str_size]; unfold maxLen; omega) w
    unfold lowS at this
    rw [str_list] at this
    exact this
  have HTa : Hid (_) := tk (cutA 47 (cpH s.data.toList)) (by omega)
  have HTb : Hid (_) := tk (cutB 47 (cpH s.data.toList)) (by omega)
  have HLa : Hid (_) := lw (cutA 47 (cpH s.data.toList)) (by omega)
  have HLb : Hid (_) := lw (cutB 47 (cpH s.data.toList)) (by omega)
  clear tk lw la lb hcl
  have N1 : Hid ((cutP s.data.toList).isSome = false → med s.data.toList = none) := med_none1 _
  have N2 : Hid (isTok (cutA 47 (cpH s.data.toList)) = false ∨ isTok (cutB 47 (cpH s.data.toList)) = false → med s.data.toList = none) := med_none2 _
  have N3 : Hid ((cutP s.data.toList).isSome = true → isTok (cutA 47 (cpH s.data.toList)) = true → isTok (cutB 47 (cpH s.data.toList)) = true → med s.data.toList = some (lower (cutA 47 (cpH s.data.toList)), lower (cutB 47 (cpH s.data.toList)), cpP s.data.toList)) := med_is _
  generalize med s.data.toList = MD at *
  generalize cutA 47 (cpH s.data.toList) = KA at *
  generalize cutB 47 (cpH s.data.toList) = KB at *
  generalize has 47 (cpH s.data.toList) = KH at *
  generalize cpH s.data.toList = CH at *
  generalize cpP s.data.toList = CP at *
  generalize (cutP s.data.toList).isSome = CB at *
  generalize isTok KA = ta at *
  generalize isTok KB = tb at *
  go_enter Tryz.func18, Tryz.ntmps18
  go_wp2_with fail
  rw [← hw2]
  refine (HC.out _ HE.out.1).mono ?_
  rintro e w3 ⟨v, rfl, ho, hb3⟩
  have HB3 : Hid (Below w2.heap.size w2 w3) := hb3
  have HO3 : Hid (OwnP 95 w2.heap.size v CP w3) := ho
  clear hb3 ho HC
  clear hw2
  go_wp2_with fail
  refine (HX.out _ (HE.out.below HB3.out).2).mono ?_
  rintro e w4 ⟨rfl, hb4⟩
  have HB4 : Hid (Below w2.heap.size w2 w4) := bel_trans HB3.out hb4
  have HO4 : Hid (OwnP 95 w2.heap.size v CP w4) := HO3.out.below hb4
  clear hb4 HX HO3 HB3
  cases CB with
  | false =>
    have R1 := (HB4.out.block _ hz2).trans HR1.out
    have c0 := Lib.cell_of_heap R1 0
    have c1 := Lib.cell_of_heap R1 1
    have c2 := Lib.cell_of_heap R1 2
    have fc0 := Lib.frozen_of_heap R1 0
    have fc1 := Lib.frozen_of_heap R1 1
    have fc2 := Lib.frozen_of_heap R1 2
    simp at c0 c1 c2
    clear R1
    have HM := N1.out rfl
    subst HM
    go_wp2
    refine bodyPost_ret (v := .tuple #[.agg #[.string ⟨#[]⟩, .string ⟨#[]⟩, .slice none 0 0], .bool false]) (by simp [results, Tryz.results18, go_sem, c0, c1, c2]) rfl ?_
    exact ⟨_, rfl, ownP_nil _ _ _, (Below.setCell (p := ⟨w.heap.size, 2, none⟩) (Below.setCell (p := ⟨w.heap.size, 1, none⟩) (Below.setCell (p := ⟨w.heap.size, 0, none⟩) (HB2.out.trans (HB4.out.mono (by omega))) (by simp) _) (by simp) _) (by simp) _)⟩
  | true =>
    go_wp2_with fail
    refine (HTa.out _ (HE.out.below HB4.out).1).mono ?_
    rintro e w5 ⟨rfl, hb5⟩
    have HB5 : Hid (Below w2.heap.size w2 w5) := bel_trans HB4.out hb5
    have HO5 : Hid (OwnP 95 w2.heap.size v CP w5) := HO4.out.below hb5
    clear hb5 HO4 HB4
    cases ta with
    | false =>
      have R1 := (HB5.out.block _ hz2).trans HR1.out
      have c0 := Lib.cell_of_heap R1 0
      have c1 := Lib.cell_of_heap R1 1
      have c2 := Lib.cell_of_heap R1 2
      have fc0 := Lib.frozen_of_heap R1 0
      have fc1 := Lib.frozen_of_heap R1 1
      have fc2 := Lib.frozen_of_heap R1 2
      simp at c0 c1 c2
      clear R1
      have HM := N2.out (.inl rfl)
      subst HM
      go_wp2
      refine bodyPost_ret (v := .tuple #[.agg #[.string ⟨#[]⟩, .string ⟨#[]⟩, .slice none 0 0], .bool false]) (by simp [results, Tryz.results18, go_sem, c0, c1, c2]) rfl ?_
      exact ⟨_, rfl, ownP_nil _ _ _, (Below.setCell (p := ⟨w.heap.size, 2, none⟩) (Below.setCell (p := ⟨w.heap.size, 1, none⟩) (Below.setCell (p := ⟨w.heap.size, 0, none⟩) (HB2.out.trans (HB5.out.mono (by omega))) (by simp) _) (by simp) _) (by simp) _)⟩
    | true =>
      go_wp2_with fail
      refine (HTb.out _ (HE.out.below HB5.out).1).mono ?_
      rintro e w6 ⟨rfl, hb6⟩
      have HB6 : Hid (Below w2.heap.size w2 w6) := bel_trans HB5.out hb6
      have HO6 : Hid (OwnP 95 w2.heap.size v CP w6) := HO5.out.below hb6
      clear hb6 HO5 HB5
      cases tb with
      | false =>
        have R1 := (HB6.out.block _ hz2).trans HR1.out
        have c0 := Lib.cell_of_heap R1 0
        have c1 := Lib.cell_of_heap R1 1
        have c2 := Lib.cell_of_heap R1 2
        have fc0 := Lib.frozen_of_heap R1 0
        have fc1 := Lib.frozen_of_heap R1 1
        have fc2 := Lib.frozen_of_heap R1 2
        simp at c0 c1 c2
        clear R1
        have HM := N2.out (.inr rfl)
        subst HM
        go_wp2
        refine bodyPost_ret (v := .tuple #[.agg #[.string ⟨#[]⟩, .string ⟨#[]⟩, .slice none 0 0], .bool false]) (by simp [results, Tryz.results18, go_sem, c0, c1, c2]) rfl ?_
        exact ⟨_, rfl, ownP_nil _ _ _, (Below.setCell (p := ⟨w.heap.size, 2, none⟩) (Below.setCell (p := ⟨w.heap.size, 1, none⟩) (Below.setCell (p := ⟨w.heap.size, 0, none⟩) (HB2.out.trans (HB6.out.mono (by omega))) (by simp) _) (by simp) _) (by simp) _)⟩
      | true =>
        have HM : MD = some (lower KA, lower KB, CP) := by simpa using N3.out
        subst HM
        go_wp2_with fail
        refine (HLa.out _).mono ?_
        rintro e w7 ⟨rfl, hb7⟩
        have HB7 : Hid (Below w2.heap.size w2 w7) := bel_trans HB6.out hb7
        have HO7 : Hid (OwnP 95 w2.heap.size v CP w7) := HO6.out.below hb7
        clear hb7 HO6 HB6
        go_wp2_with fail
        refine (HLb.out _).mono ?_
        rintro e w8 ⟨rfl, hb8⟩
        have HB8 : Hid (Below w2.heap.size w2 w8) := bel_trans HB7.out hb8
        have HO8 : Hid (OwnP 95 w2.heap.size v CP w8) := HO7.out.below hb8
        clear hb8 HO7 HB7
        have R1 := (HB8.out.block _ hz2).trans HR1.out
        have c0 := Lib.cell_of_heap R1 0
        have c1 := Lib.cell_of_heap R1 1
        have c2 := Lib.cell_of_heap R1 2
        have fc0 := Lib.frozen_of_heap R1 0
        have fc1 := Lib.frozen_of_heap R1 1
        have fc2 := Lib.frozen_of_heap R1 2
        simp at c0 c1 c2
        clear R1
        obtain ⟨va, vc, rfl, _⟩ := OwnP.rd HO8.out
        go_wp2
        refine bodyPost_ret (v := .tuple #[.agg #[.string (str (lower KA)), .string (str (lower KB)), .slice va CP.length vc], .bool true]) (by simp [results, Tryz.results18, go_sem, c0, c1, c2]) rfl ?_
        refine ⟨_, rfl, ?_, (Below.setCell (p := ⟨w.heap.size, 2, none⟩) (Below.setCell (p := ⟨w.heap.size, 1, none⟩) (Below.setCell (p := ⟨w.heap.size, 0, none⟩) (HB2.out.trans (HB8.out.mono (by omega))) (by simp) _) (by simp) _) (by simp) _)⟩
        exact OwnP.mono (OwnP.setBelow (a := ⟨w.heap.size, 2, none⟩) (OwnP.setBelow (a := ⟨w.heap.size, 1, none⟩) (OwnP.setBelow (a := ⟨w.heap.size, 0, none⟩) HO8.out hz2 _) hz2 _) hz2 _) (by omega)

/-- What Parse says: the media type of which each parameter has a value. -/
def parM (l : List UInt8) : Option Med := match med (trim l) with | some x => if x.2.2.any noVal then none else some x | none => none
def parE (o : Option Med) : Int := match o with | some _ => 0 | none => 70
theorem parM_none (l : List UInt8) (h : (med (trim l)).isSome = false) : parM l = none := by
  unfold parM
  cases hm : med (trim l) with
  | none => rfl
  | some x =>
    rw [hm] at h
    cases h
theorem parM_val (l : List UInt8) (h : (mdP (med (trim l))).any noVal = true) : parM l = none := by
  unfold parM
  cases hm : med (trim l) with
  | none => rfl
  | some x =>
    rw [hm] at h
    exact if_pos h
theorem parM_same (l : List UInt8) (h : (med (trim l)).isSome = true ∧ (mdP (med (trim l))).any noVal = false) : parM l = med (trim l) ∧ parE (parM l) = 0 := by
  have e : parM l = med (trim l) := by
    unfold parM
    cases hm : med (trim l) with
    | none => rfl
    | some x =>
      rw [hm] at h
      dsimp only
      rw [if_neg]
      intro h3
      have h2 : x.2.2.any noVal = false := h.2
      rw [h2] at h3
      cases h3
  refine ⟨e, ?_⟩
  rw [e]
  cases hm : med (trim l) with
  | none => rw [hm] at h; cases h.1
  | some x => rfl
theorem med_bd (l : List UInt8) : EachP l.length (mdP (med l)) ∧ (mdP (med l)).length ≤ l.length ∧ (mdT (med l)).length ≤ l.length ∧ (mdS (med l)).length ≤ l.length := by
  have hb := cp_bd l
  unfold cpP cpH at hb
  unfold med
  cases h : cutP l with
  | none => exact ⟨(fun p hp => by cases hp), Nat.zero_le _, Nat.zero_le _, Nat.zero_le _⟩
  | some x =>
    rw [h] at hb
    dsimp only at hb ⊢
    split
    · have h1 := cutA_len 47 x.1
      have h2 := cutB_len 47 x.1
      refine ⟨hb.1, hb.2.1, ?_, ?_⟩
      · show (lower _).length ≤ _
        rw [lower_len]; omega
      · show (lower _).length ≤ _
        rw [lower_len]; omega
    · exact ⟨(fun p hp => by cases hp), Nat.zero_le _, Nat.zero_le _, Nat.zero_le _⟩
theorem trim_len (l : List UInt8) : (trim l).length ≤ l.length := by
  unfold trim trimR trimL
  simp only [List.length_reverse]
  have h1 := (List.dropWhile_sublist blankB (l := (l.dropWhile blankB).reverse)).length_le
  have h2 := (List.dropWhile_sublist blankB (l := l)).length_le
  rw [List.length_reverse] at h1
  omega

set_option maxRecDepth 100000 in
set_option maxHeartbeats 2000000 in
theorem Parse_any (s : ByteArray) (hs : s.size ≤ 134217728) (w : World) (hw : Env w) :
    Calls Tryz.prog 7 #[.string s] w fun e w' => ∃ v, e = .returned (.tuple #[.agg #[.string (str (mdT (parM s.data.toList))), .string (str (mdS (parM s.data.toList))), v], .int .i64 (parE (parM s.data.toList))]) ∧ OwnP 95 w.heap.size v (mdP (parM s.data.toList)) w' ∧ Below w.heap.size w w' := by
  obtain ⟨w2, hw2⟩ : ∃ w2, w2 = w.alloc (.cells #[.string ⟨#[]⟩, .string ⟨#[]⟩, .slice none 0 0] 35) := ⟨_, rfl⟩
  have HR1 : Hid (w2.heap[w.heap.size]? = some (.cells #[.string ⟨#[]⟩, .string ⟨#[]⟩, .slice none 0 0] 35 (0, 0))) := by
    show _ = _; rw [hw2]; exact heap_alloc_new w _
  have hb2 : Below w.heap.size w w2 := by rw [hw2]; exact (Below.refl _ w).alloc (Nat.le_refl _) _
  have hz2 : w.heap.size < w2.heap.size := by rw [hw2]; simp
  have HB2 : Hid (Below w.heap.size w w2) := hb2
  have HE : Hid (Env w2) := hw.below hb2
  clear hb2 hw
  have HT : Hid (∀ w, Calls Tryz.prog 19 #[.string s] w fun e w' => e = .returned (.string (str (trim s.data.toList))) ∧ Below w.heap.size w w') := fun w => Trim_any s (by unfold maxLen; omega) w
  have htl := trim_len s.data.toList
  rw [size_list] at htl
  have HM : Hid (∀ w, Env w → Calls Tryz.prog 18 #[.string (str (trim s.data.toList))] w fun e w' => ∃ v, e = .returned (.tuple #[.agg #[.string (str (mdT (med (trim s.data.toList)))), .string (str (mdS (med (trim s.data.toList)))), v], .bool (med (trim s.data.toList)).isSome]) ∧ OwnP 95 w.heap.size v (mdP (med (trim s.data.toList))) w' ∧ Below w.heap.size w w') := fun w h => by
    have := readMedia_any (str (trim s.data.toList)) (by rw [str_size]; omega) w h
    rw [str_list] at this
    exact this
  obtain ⟨e1, e2, _, _⟩ := med_bd (trim s.data.toList)
  have HP : Hid (∀ v w, RdP v (mdP (med (trim s.data.toList))) w → Calls Tryz.prog 20 #[v] w fun e w' => e = .returned (.bool (!(mdP (med (trim s.data.toList))).any noVal)) ∧ Below w.heap.size w w') := fun v w h => allValued_any v _ (e1.mono (by unfold maxLen; omega)) (by omega) w h
  have HN : Hid ((med (trim s.data.toList)).isSome = false → parM s.data.toList = none) := parM_none _
  have HV : Hid ((mdP (med (trim s.data.toList))).any noVal = true → parM s.data.toList = none) := parM_val _
  have HS : Hid ((med (trim s.data.toList)).isSome = true ∧ (mdP (med (trim s.data.toList))).any noVal = false → parM s.data.toList = med (trim s.data.toList) ∧ parE (parM s.data.toList) = 0) := parM_same _
  clear e1 e2 htl
  generalize parM s.data.toList = PM at *
  generalize med (trim s.data.toList) = MD at *
  generalize MD.isSome = mb at *
  generalize (mdP MD).any noVal = nv at *
  generalize str (trim s.data.toList) = TS at *
  go_enter Tryz.func7, Tryz.ntmps7
  go_wp2_with fail
  rw [← hw2]
  refine (HT.out _).mono ?_
  rintro e w3 ⟨rfl, hb3⟩
  have HB3 : Hid (Below w2.heap.size w2 w3) := hb3
  clear hb3 HT hw2
  go_wp2_with fail
  refine (HM.out _ (HE.out.below HB3.out)).mono ?_
  rintro e w4 ⟨v, rfl, ho, hb4⟩
  have HB4 : Hid (Below w2.heap.size w2 w4) := bel_trans HB3.out hb4
  have HO4 : Hid (OwnP 95 w2.heap.size v (mdP MD) w4) := OwnP.mono ho HB3.out.size
  clear hb4 ho HM HB3
  obtain ⟨va, vc, rfl, _⟩ := OwnP.rd HO4.out
  obtain ⟨w5, hw5⟩ : ∃ w5, w5 = w4.alloc (.cells #[.string (str (mdT MD)), .string (str (mdS MD)), .slice va (mdP MD).length vc] 35) := ⟨_, rfl⟩
  have HR5 : Hid (w5.heap[w4.heap.size]? = some (.cells #[.string (str (mdT MD)), .string (str (mdS MD)), .slice va (mdP MD).length vc] 35 (0, 0))) := by
    show _ = _; rw [hw5]; exact heap_alloc_new w4 _
  have hb5 : Below w4.heap.size w4 w5 := by rw [hw5]; exact (Below.refl _ w4).alloc (Nat.le_refl _) _
  have HB5 : Hid (Below w2.heap.size w2 w5) := bel_trans HB4.out hb5
  have HO5 : Hid (OwnP 95 w2.heap.size (.slice va (mdP MD).length vc) (mdP MD) w5) := HO4.out.below hb5
  have hz5 : w4.heap.size < w5.heap.size := by rw [hw5]; simp
  have hz4 := HB4.out.size
  clear hb5 HO4
  have R1 := (HB5.out.block _ hz2).trans HR1.out
  have c0 := Lib.cell_of_heap R1 0
  have c1 := Lib.cell_of_heap R1 1
  have c2 := Lib.cell_of_heap R1 2
  have fc0 := Lib.frozen_of_heap R1 0
  have fc1 := Lib.frozen_of_heap R1 1
  have fc2 := Lib.frozen_of_heap R1 2
  have d0 := Lib.cell_of_heap HR5.out 0
  have d1 := Lib.cell_of_heap HR5.out 1
  have d2 := Lib.cell_of_heap HR5.out 2
  simp at c0 c1 c2 d0 d1 d2
  clear R1
  cases mb with
  | false =>
    have HM := HN.out rfl
    subst HM
    subst hw5
    go_wp2
    refine bodyPost_ret (v := .tuple #[.agg #[.string ⟨#[]⟩, .string ⟨#[]⟩, .slice none 0 0], .int .i64 70]) (by simp [results, Tryz.results7, go_sem, c0, c1, c2]) rfl ?_
    exact ⟨_, rfl, ownP_nil _ _ _, (Below.setCell (p := ⟨w.heap.size, 2, none⟩) (Below.setCell (p := ⟨w.heap.size, 1, none⟩) (Below.setCell (p := ⟨w.heap.size, 0, none⟩) (HB2.out.trans (HB5.out.mono (by omega))) (by simp) _) (by simp) _) (by simp) _)⟩
  | true =>
    go_wp2_with fail
    rw [← hw5]
    clear hw5
    refine (HP.out _ _ (OwnP.rd HO5.out)).mono ?_
    rintro e w6 ⟨rfl, hb6⟩
    have HB6 : Hid (Below w2.heap.size w2 w6) := bel_trans HB5.out hb6
    have HO6 : Hid (OwnP 95 w2.heap.size (.slice va (mdP MD).length vc) (mdP MD) w6) := HO5.out.below hb6
    have R6 := (hb6.block _ hz5).trans HR5.out
    have R1 := (HB6.out.block _ hz2).trans HR1.out
    clear c0 c1 c2 fc0 fc1 fc2 d0 d1 d2
    have c0 := Lib.cell_of_heap R1 0
    have c1 := Lib.cell_of_heap R1 1
    have c2 := Lib.cell_of_heap R1 2
    have fc0 := Lib.frozen_of_heap R1 0
    have fc1 := Lib.frozen_of_heap R1 1
    have fc2 := Lib.frozen_of_heap R1 2
    have d0 := Lib.cell_of_heap R6 0
    have d1 := Lib.cell_of_heap R6 1
    have d2 := Lib.cell_of_heap R6 2
    simp at c0 c1 c2 d0 d1 d2
    clear R1 R6 hb6
    cases nv with
    | true =>
      have HM := HV.out rfl
      subst HM
      go_wp2
      refine bodyPost_ret (v := .tuple #[.agg #[.string ⟨#[]⟩, .string ⟨#[]⟩, .slice none 0 0], .int .i64 70]) (by simp [results, Tryz.results7, go_sem, c0, c1, c2]) rfl ?_
      exact ⟨_, rfl, ownP_nil _ _ _, (Below.setCell (p := ⟨w.heap.size, 2, none⟩) (Below.setCell (p := ⟨w.heap.size, 1, none⟩) (Below.setCell (p := ⟨w.heap.size, 0, none⟩) (HB2.out.trans (HB6.out.mono (by omega))) (by simp) _) (by simp) _) (by simp) _)⟩
    | false =>
      have HM := HS.out (by simp)
      have HM0 : Hid (parE PM = 0) := HM.2
      have HM1 : Hid (PM = MD) := HM.1
      clear HM HN HV HS
      have hne : w4.heap.size ≠ w.heap.size := by omega
      go_wp2
      refine bodyPost_ret (v := .tuple #[.agg #[.string (str (mdT MD)), .string (str (mdS MD)), .slice va (mdP MD).length vc], .int .i64 0]) (by simp [results, Tryz.results7, go_sem, c0, c1, c2]) rfl ?_
      rw [HM0.out, HM1.out]
      refine ⟨_, rfl, ?_, (Below.setCell (p := ⟨w.heap.size, 2, none⟩) (Below.setCell (p := ⟨w.heap.size, 1, none⟩) (Below.setCell (p := ⟨w.heap.size, 0, none⟩) (HB2.out.trans (HB6.out.mono (by omega))) (by simp) _) (by simp) _) (by simp) _)⟩
      exact OwnP.mono (OwnP.setBelow (a := ⟨w.heap.size, 2, none⟩) (OwnP.setBelow (a := ⟨w.heap.size, 1, none⟩) (OwnP.setBelow (a := ⟨w.heap.size, 0, none⟩) HO6.out hz2 _) hz2 _) hz2 _) (by omega)

end Ac
end Go.Proofs.YthfckgdaencagaaGreatDoor
