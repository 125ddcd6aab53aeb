/-
  Lists of tokens; texts held against texts.
-/
import Derived.Test.YthdepdgmlngafabDoorRList
set_option linter.unusedVariables false
set_option linter.unusedSimpArgs false
namespace Go.Proofs.YthdepdgmlngafabDoor
open Go.RowKit Go.Shelf
namespace Oc

def tokensR (l : List UInt8) : List (List UInt8) × Int := if (listR l).2 = 0 then (if (listR l).1.all isTok then ((listR l).1, 0) else ([], 10)) else ([], (listR l).2)
theorem listR_err (l : List UInt8) : (listR l).2 = 0 ∨ (listR l).1 = [] ∧ (listR l).2 = 14 := by
  unfold listR
  split
  · exact .inl rfl
  · exact .inr ⟨rfl, rfl⟩
theorem tokensR_err {l : List UInt8} (h : (listR l).2 = 14) : tokensR l = ([], 14) := by unfold tokensR; rw [if_neg (by omega), h]
theorem tokensR_bad {l : List UInt8} (h : (listR l).2 = 0) (k : Nat) (hk : k < (listR l).1.length) (hb : isTok ((listR l).1.getD k []) = false) : tokensR l = ([], 10) := by
  unfold tokensR
  rw [if_pos h, if_neg]
  rw [all_not isTok [] _ k hk hb]
  simp
theorem tokensR_ok {l : List UInt8} (h : (listR l).2 = 0) (hb : ∀ k, k < (listR l).1.length → isTok ((listR l).1.getD k []) = true) : tokensR l = ((listR l).1, 0) := by
  unfold tokensR
  rw [if_pos h, if_pos (all_of isTok [] _ hb)]

/-- Elements are no longer than the text, and as many. -/
def Short (n : Nat) (t : List (List UInt8)) : Prop := t.length ≤ n ∧ ∀ x ∈ t, x.length ≤ n
theorem short_lst : ∀ (m : Nat) (r cur : List UInt8) (t : List (List UInt8)), r.length ≤ m → lst cur r = some t → t.length ≤ r.length + 1 ∧ ∀ x ∈ t, x.length ≤ cur.length + r.length
  | m, [], cur, t, _, h => by
    rw [lst_nil] at h
    cases h
    have := addEl_len (trim cur)
    refine ⟨by simpa using this, fun x hx => ?_⟩
    unfold addEl at hx
    split at hx
    · simp at hx
    · simp at hx
      subst hx
      have := trim_le cur
      simp
      omega
  | 0, c :: r, cur, t, hm, _ => by simp at hm
  | m + 1, c :: r, cur, t, hm, h => by
    have hl : r.length ≤ m := by simpa using hm
    by_cases h44 : c = 44
    · rw [lst_comma _ _ _ h44] at h
      obtain ⟨u, hu, rfl⟩ := Option.map_eq_some_iff.1 h
      obtain ⟨i1, i2⟩ := short_lst m r [] u hl hu
      constructor
      · unfold addEl
        split <;> simp <;> omega
      · intro x hx
        unfold addEl at hx
        split at hx
        · have := i2 x hx
          simp at this ⊢
          omega
        · rcases List.mem_cons.1 hx with rfl | hx
          · have := trim_le cur
            simp
            omega
          · have := i2 x hx
            simp at this ⊢
            omega
    · by_cases h34 : c = 34
      · by_cases hq : qlen (c :: r) = 0
        · rw [lst_bad _ _ _ h34 hq] at h; cases h
        · rw [lst_quote _ _ _ h34 hq] at h
          have hb := qlen_bd (c :: r)
          obtain ⟨i1, i2⟩ := short_lst m _ _ t (by rw [List.length_drop]; simp; omega) h
          rw [List.length_drop] at i1 i2
          rw [List.length_append, List.length_take] at i2
          refine ⟨by omega, fun x hx => ?_⟩
          have := i2 x hx
          omega
      · rw [lst_on _ _ _ h44 h34] at h
        obtain ⟨i1, i2⟩ := short_lst m r _ t hl h
        rw [List.length_append] at i2
        refine ⟨by simp; omega, fun x hx => ?_⟩
        have := i2 x hx
        simp at this ⊢
        omega
theorem listR_short (l : List UInt8) : (listR l).1.length ≤ l.length + 1 ∧ ∀ x ∈ (listR l).1, x.length ≤ l.length := by
  unfold listR
  split
  · rename_i t h
    obtain ⟨a, b⟩ := short_lst l.length l [] t (Nat.le_refl _) h
    exact ⟨a, fun x hx => by have := b x hx; simpa using this⟩
  · simp
theorem getD_short {n : Nat} {t : List (List UInt8)} (h : ∀ x ∈ t, x.length ≤ n) (k : Nat) (hk : k < t.length) : (t.getD k []).length ≤ n := by
  refine h _ ?_
  rw [List.getD_eq_getElem?_getD, List.getElem?_eq_getElem hk]
  exact List.getElem_mem _

set_option maxRecDepth 100000 in
set_option maxHeartbeats 1000000 in
theorem Tokens_any (s : ByteArray) (hs : s.size ≤ 134217728) (w : World) (t : Tab w) :
    Calls Tryd.prog 11 #[.string s] w fun e w' => ∃ v, e = .returned (.tuple #[v, .int .i64 (tokensR s.data.toList).2]) ∧ OwnS w.heap.size v (tokensR s.data.toList).1 w' ∧ Below w.heap.size w w' := by
  have HT : Hid (Tab w) := t
  clear t
  have HSh := listR_short s.data.toList
  rw [size_list] at HSh
  obtain ⟨hn, hx0⟩ := HSh
  have HX : Hid (∀ x ∈ (listR s.data.toList).1, x.length ≤ s.size) := hx0
  clear hx0
  rcases listR_err s.data.toList with he | ⟨he1, he⟩
  · have HOk : Hid (∀ (hb : ∀ k, k < (listR s.data.toList).1.length → isTok ((listR s.data.toList).1.getD k []) = true), tokensR s.data.toList = ((listR s.data.toList).1, 0)) := tokensR_ok he
    have HBad : Hid (∀ k, k < (listR s.data.toList).1.length → isTok ((listR s.data.toList).1.getD k []) = false → tokensR s.data.toList = ([], 10)) := tokensR_bad he
    have HE : Hid ((listR s.data.toList).2 = 0) := he
    clear he
    go_enter Tryd.func11, Tryd.ntmps11
    go_wp2_with fail
    refine (List_any s hs _).mono ?_
    rintro e w1 ⟨v, rfl, hown, hb1⟩
    rw [HE.out]
    have HB1 : Hid (Below w.heap.size w w1) := hb1
    clear hb1
    generalize (listR s.data.toList).1 = T at *
    obtain ⟨a, c, rfl⟩ := hown.form
    have HO : Hid (OwnS w.heap.size (.slice a T.length c) T w1) := hown
    clear hown
    go_wp2
    go_loopw [18] (fun i wr => ∃ k : Nat, k ≤ T.length ∧ i = .int .i64 k ∧ Hid (∀ j, j < k → isTok (T.getD j []) = true) ∧ Hid (Below w1.heap.size w1 wr)) (fun i _ => T.length - (intOf i).toNat)
    case atStart => exact ⟨0, Nat.zero_le _, rfl, (fun j hj => by omega : ∀ j, j < 0 → _), Below.refl _ _⟩
    case round =>
      obtain ⟨k, hk, rfl, hall, hbl⟩ := hrel
      have hsz := hbl.out.size
      by_cases hlt : k < T.length
      · obtain ⟨g, rfl, hcap, hcell⟩ := (HO.out.below hbl.out).cell k hlt
        have HL : Hid ((str (T.getD k [])).size ≤ maxLen) := (by rw [str_size]; have := getD_short HX.out k hlt; unfold maxLen; omega : (str (T.getD k [])).size ≤ maxLen)
        have HI : Hid ((str (T.getD k [])).data.toList = T.getD k []) := str_list _
        generalize hu : T.getD k [] = u at *
        have HU : Hid (T.getD k [] = u) := hu
        clear hu
        have HTb : Hid (Tab wr) := (HT.out.below HB1.out (Nat.le_refl _)).below hbl.out (Nat.le_refl _)
        cases htk : isTok u with
        | true =>
          have HA : Hid (∀ j, j < k + 1 → isTok (T.getD j []) = true) := by
            intro j hj
            by_cases hjk : j = k
            · subst hjk; rw [HU.out]; exact htk
            · exact hall.out j (by omega)
          go_wp2_with fail
          refine (IsToken_any (str u) HL.out _ HTb.out).mono ?_
          rintro e w2 ⟨rfl, hb2⟩
          rw [HI.out, htk]
          have HB2 : Hid (Below w1.heap.size w1 w2) := hbl.out.trans (hb2.mono hsz)
          clear hb2
          go_wp2
          go_roundw
          case rel => exact ⟨k + 1, by omega, by go_num, HA, HB2⟩
          case measure => simp [intOf]; omega
        | false =>
          have HN : Hid (tokensR s.data.toList = ([], 10)) := HBad.out k hlt (by rw [HU.out]; exact htk)
          go_wp2_with fail
          refine (IsToken_any (str u) HL.out _ HTb.out).mono ?_
          rintro e w2 ⟨rfl, hb2⟩
          rw [HI.out, htk]
          go_wp2
          go_ret2
          rw [HN.out]
          exact ⟨_, rfl, ownS_nil _ _, bel_trans HB1.out (hbl.out.trans (hb2.mono hsz))⟩
      · have HN : Hid (tokensR s.data.toList = (T, 0)) := HOk.out (fun j hj => hall.out j (by omega))
        go_wp2
        go_ret2
        rw [HN.out]
        exact ⟨_, rfl, HO.out.below hbl.out, bel_trans HB1.out hbl.out⟩
  · have HN : Hid (tokensR s.data.toList = ([], 14)) := tokensR_err he
    go_enter Tryd.func11, Tryd.ntmps11
    go_wp2_with fail
    refine (List_any s hs _).mono ?_
    rintro e w1 ⟨v, rfl, hown, hb1⟩
    rw [he]
    go_wp2
    go_ret2
    rw [HN.out]
    exact ⟨_, rfl, ownS_nil _ _, hb1⟩

set_option maxRecDepth 100000 in
set_option maxHeartbeats 1000000 in
theorem rTokens_any (s : ByteArray) (hs : s.size ≤ 134217728) (w : World) :
    Calls Tryd.prog 12 #[.string s] w fun e w' => ∃ v, e = .returned (.tuple #[v, .int .i64 (tokensR s.data.toList).2]) ∧ OwnS w.heap.size v (tokensR s.data.toList).1 w' ∧ Below w.heap.size w w' := by
  have HSh := listR_short s.data.toList
  rw [size_list] at HSh
  obtain ⟨hn, hx0⟩ := HSh
  have HX : Hid (∀ x ∈ (listR s.data.toList).1, x.length ≤ s.size) := hx0
  clear hx0
  rcases listR_err s.data.toList with he | ⟨he1, he⟩
  · have HOk : Hid (∀ (hb : ∀ k, k < (listR s.data.toList).1.length → isTok ((listR s.data.toList).1.getD k []) = true), tokensR s.data.toList = ((listR s.data.toList).1, 0)) := tokensR_ok he
    have HBad : Hid (∀ k, k < (listR s.data.toList).1.length → isTok ((listR s.data.toList).1.getD k []) = false → tokensR s.data.toList = ([], 10)) := tokensR_bad he
    have HE : Hid ((listR s.data.toList).2 = 0) := he
    clear he
    go_enter Tryd.func12, Tryd.ntmps12
    go_wp2_with fail
    refine (rList_any s hs _).mono ?_
    rintro e w1 ⟨v, rfl, hown, hb1⟩
    rw [HE.out]
    have HB1 : Hid (Below w.heap.size w w1) := hb1
    have hs1 := hb1.size
    clear hb1
    generalize (listR s.data.toList).1 = T at *
    obtain ⟨a, c, rfl⟩ := hown.form
    have HO : Hid (OwnS w.heap.size (.slice a T.length c) T w1) := hown
    clear hown
    go_wp2
    go_loop [6] (fun i => ∃ k : Nat, k ≤ T.length ∧ i = .int .i64 k ∧ Hid (∀ j, j < k → isTok (T.getD j []) = true)) (fun i => T.length - (intOf i).toNat)
    case atStart => exact ⟨0, Nat.zero_le _, rfl, (fun j hj => by omega : ∀ j, j < 0 → _)⟩
    case round =>
      obtain ⟨k, hk, rfl, hall⟩ := hrel
      by_cases hlt : k < T.length
      · obtain ⟨g, rfl, hcap, hcell⟩ := HO.out.cell k hlt
        have HL : Hid ((str (T.getD k [])).size ≤ maxLen) := (by rw [str_size]; have := getD_short HX.out k hlt; unfold maxLen; omega : (str (T.getD k [])).size ≤ maxLen)
        have HI : Hid ((str (T.getD k [])).data.toList = T.getD k []) := str_list _
        generalize hu : T.getD k [] = u at *
        have HU : Hid (T.getD k [] = u) := hu
        clear hu
        cases htk : isTok u with
        | true =>
          have HA : Hid (∀ j, j < k + 1 → isTok (T.getD j []) = true) := by
            intro j hj
            by_cases hjk : j = k
            · subst hjk; rw [HU.out]; exact htk
            · exact hall.out j (by omega)
          go_wp2_with fail
          refine (rIsToken_any (str u) HL.out _).mono ?_
          rintro e w2 ⟨rfl, rfl⟩
          rw [HI.out, htk]
          go_wp2
          go_round
          case rel => exact ⟨k + 1, by omega, by go_num, HA⟩
          case measure => simp [intOf]; omega
        | false =>
          have HN : Hid (tokensR s.data.toList = ([], 10)) := HBad.out k hlt (by rw [HU.out]; exact htk)
          go_wp2_with fail
          refine (rIsToken_any (str u) HL.out _).mono ?_
          rintro e w2 ⟨rfl, rfl⟩
          rw [HI.out, htk]
          go_wp2
          go_ret2
          rw [HN.out]
          exact ⟨_, rfl, ownS_emptyB _ hs1, HB1.out.alloc hs1 _⟩
      · have HN : Hid (tokensR s.data.toList = (T, 0)) := HOk.out (fun j hj => hall.out j (by omega))
        go_wp2
        go_ret2
        rw [HN.out]
        exact ⟨_, rfl, HO.out, HB1.out⟩
  · have HN : Hid (tokensR s.data.toList = ([], 14)) := tokensR_err he
    go_enter Tryd.func12, Tryd.ntmps12
    go_wp2_with fail
    refine (rList_any s hs _).mono ?_
    rintro e w1 ⟨v, rfl, hown, hb1⟩
    rw [he]
    rw [he1] at hown
    go_wp2
    go_ret2
    rw [HN.out]
    exact ⟨_, rfl, hown, hb1⟩

end Oc
end Go.Proofs.YthdepdgmlngafabDoor
