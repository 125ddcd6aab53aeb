/- Several texts as one. -/
import Derived.Test.YthdfgepnadgkjaaGreatDoorZzG
/-
  octet.List.
-/
set_option linter.unusedVariables false
set_option linter.unusedSimpArgs false
namespace Go.Proofs.YthdfgepnadgkjaaGreatDoor
open Go.RowKit Go.Shelf
namespace Oc

/-- What stands from a place up to another. -/
def piece (l : List UInt8) (fr at' : Nat) : List UInt8 := (l.drop fr).take (at' - fr)
theorem piece_app (l : List UInt8) (fr a n : Nat) (h : fr ≤ a) : piece l fr a ++ (l.drop a).take n = piece l fr (a + n) := by
  unfold piece
  have e : l.drop a = (l.drop fr).drop (a - fr) := by rw [List.drop_drop, show fr + (a - fr) = a by omega]
  rw [e, show a + n - fr = (a - fr) + n by omega, List.take_add]
theorem piece_snoc (l : List UInt8) (fr a : Nat) (h : fr ≤ a) (ha : a < l.length) : piece l fr a ++ [l.getD a 0] = piece l fr (a + 1) := by
  rw [← piece_app l fr a 1 h, drop_cons l a ha]
  rfl
theorem piece_nil (l : List UInt8) (a : Nat) : piece l a a = [] := by unfold piece; simp
theorem piece_ext (s : ByteArray) (fr a : Nat) : (s.extract fr a).data.toList = piece s.data.toList fr a := Lib.extract_data s fr a
theorem piece_end (s : ByteArray) (fr a : Nat) (h : s.size ≤ a) : piece s.data.toList fr a = s.data.toList.drop fr := by
  unfold piece
  rw [List.take_of_length_le]
  rw [List.length_drop, size_list]
  omega
theorem lst_step (l : List UInt8) (acc : List (List UInt8)) (fr a : Nat) (t : List (List UInt8)) (h : lst [] l = (lst (piece l fr a) (44 :: l.drop (a + 1))).map (acc ++ ·)) :
    lst [] l = (lst (piece l (a + 1) (a + 1)) (l.drop (a + 1))).map ((acc ++ addEl (trim (piece l fr a)) []) ++ ·) := by
  rw [h, lst_comma _ _ _ rfl, piece_nil, Option.map_map]
  congr 1
  funext x
  show acc ++ addEl _ x = _
  rw [addEl_app]
  simp
theorem addEl_len (x : List UInt8) : (addEl x []).length ≤ 1 := by unfold addEl; split <;> simp

set_option maxRecDepth 100000 in
set_option maxHeartbeats 2000000 in
theorem List_any (s : ByteArray) (hs : s.size ≤ 134217728) (w : World) :
    Calls Tryz.prog 38 #[.string s] w fun e w' => ∃ v, e = .returned (.tuple #[v, .int .i64 (listR s.data.toList).2]) ∧ OwnS w.heap.size v (listR s.data.toList).1 w' ∧ Below w.heap.size w w' := by
  go_enter Tryz.func38, Tryz.ntmps38
  go_wp2
  go_loopw [4, 5, 6] (fun lv fv av wr => ∃ (fr a : Nat) (acc : List (List UInt8)), fr ≤ a ∧ a ≤ s.size ∧ fv = .int .i64 fr ∧ av = .int .i64 a ∧ acc.length ≤ a ∧ Hid (lst [] s.data.toList = (lst (piece s.data.toList fr a) (s.data.toList.drop a)).map (acc ++ ·)) ∧ Hid (OwnS w.heap.size lv acc wr) ∧ Hid (Below w.heap.size w wr)) (fun _ _ av _ => s.size - (intOf av).toNat)
  case atStart => exact ⟨0, 0, [], Nat.le_refl _, Nat.zero_le _, rfl, rfl, Nat.le_refl _, (by simp [piece_nil] : lst [] s.data.toList = (lst (piece s.data.toList 0 0) (s.data.toList.drop 0)).map ([] ++ ·)), ownS_nil _ _, Below.refl _ _⟩
  case round =>
    obtain ⟨fr, a, acc, hfa, has, rfl, rfl, hacc, hst, hown, hbl⟩ := hrel
    have hsz := hbl.out.size
    by_cases hlt : a < s.size
    · have hby : ((s[a].toNat : Nat) : Int) = byt s a := byt_at s a hlt
      have HC : Hid (byt s a = ((s.data.toList.getD a 0).toNat : Int)) := rfl
      have HD : Hid (s.data.toList.drop a = s.data.toList.getD a 0 :: s.data.toList.drop (a + 1)) := drop_cons _ a (by rw [size_list]; exact hlt)
      have HP : Hid (piece s.data.toList fr a ++ [s.data.toList.getD a 0] = piece s.data.toList fr (a + 1)) := piece_snoc _ fr a hfa (by rw [size_list]; exact hlt)
      generalize s.data.toList.getD a 0 = u at HC HD HP
      generalize byt s a = c at *
      by_cases h44 : c = 44
      · have HU : Hid (u = 44) := UInt8.toNat_inj.1 (by have := HC.out; show u.toNat = 44; omega)
        have h44' : (c == 44) = true := by simp [h44]
        have HN : Hid (lst [] s.data.toList = (lst (piece s.data.toList (a + 1) (a + 1)) (s.data.toList.drop (a + 1))).map ((acc ++ addEl (trim (piece s.data.toList fr a)) []) ++ ·)) := by
          refine lst_step _ acc fr a [] ?_
          rw [hst.out, HD.out, HU.out]
        have HE : Hid ((s.extract fr a).data.toList = piece s.data.toList fr a) := piece_ext s fr a
        clear h44
        go_wp2_with fail
        refine (appendElement_any w.heap.size _ acc (s.extract fr a) (by unfold maxLen; simp; omega) (by omega) _ hown.out hsz).mono ?_
        rintro e w2 ⟨v2, rfl, hown2, hb2⟩
        rw [HE.out] at hown2
        have HO2 : Hid (OwnS w.heap.size v2 (acc ++ addEl (trim (piece s.data.toList fr a)) []) w2) := hown2
        have HB2 : Hid (Below w.heap.size w w2) := hbl.out.trans hb2
        have HLn : Hid ((acc ++ addEl (trim (piece s.data.toList fr a)) []).length ≤ a + 1) := by
          show List.length _ ≤ _
          have := addEl_len (trim (piece s.data.toList fr a))
          rw [List.length_append]
          omega
        clear hown2 hb2
        go_wp2
        go_roundw
        case rel => exact ⟨a + 1, a + 1, _, Nat.le_refl _, by omega, by go_num, by go_num, HLn.out, HN, HO2, HB2⟩
        case measure => simp [intOf]; omega
      · have h44' : (c == 44) = false := by simp [h44]
        have HU44 : Hid (u ≠ 44) := fun e => h44 (by have := HC.out; rw [e] at this; exact this)
        clear h44
        by_cases h34 : c = 34
        · have HU : Hid (u = 34) := UInt8.toNat_inj.1 (by have := HC.out; show u.toNat = 34; omega)
          have h34' : (c == 34) = true := by simp [h34]
          clear h34
          have HE : Hid ((s.extract a s.size).data.toList = s.data.toList.drop a) := Lib.extract_to_end s a
          have hqb := qlen_bd (s.data.toList.drop a)
          rw [List.length_drop, size_list] at hqb
          obtain ⟨hq1, hq2⟩ := hqb
          by_cases hq : qlen (s.data.toList.drop a) = 0
          · have HN : Hid (listR s.data.toList = ([], 14)) := listR_none (by
              rw [hst.out]
              have h := hq
              rw [HD.out] at h ⊢
              rw [lst_bad _ _ _ HU.out h]
              rfl)
            go_wp2_with fail
            refine (quotedLength_any (s.extract a s.size) (by unfold maxLen; simp; omega) _).mono ?_
            rintro e w2 ⟨rfl, hb2⟩
            rw [HE.out, hq]
            go_wp2
            go_ret2
            rw [HN.out]
            exact ⟨_, rfl, ownS_nil _ _, hbl.out.trans (hb2.mono hsz)⟩
          · have hq3 := hq2 hq
            have HN : Hid (lst [] s.data.toList = (lst (piece s.data.toList fr (a + qlen (s.data.toList.drop a))) (s.data.toList.drop (a + qlen (s.data.toList.drop a)))).map (acc ++ ·)) := by
              show lst _ _ = _
              rw [← piece_app _ fr a _ hfa, ← List.drop_drop]
              have h := hst.out
              have hq' := hq
              rw [HD.out] at h hq'
              rw [lst_quote _ _ _ HU.out hq', ← HD.out] at h
              exact h
            clear hq2
            go_wp2_with fail
            refine (quotedLength_any (s.extract a s.size) (by unfold maxLen; simp; omega) _).mono ?_
            rintro e w2 ⟨rfl, hb2⟩
            rw [HE.out]
            have HO2 : Hid (OwnS w.heap.size _ acc w2) := hown.out.below hb2
            have HB2 : Hid (Below w.heap.size w w2) := hbl.out.trans (hb2.mono hsz)
            clear hb2
            generalize qlen (s.data.toList.drop a) = n at *
            have hne : ((n : Int) == 0) = false := by simp; omega
            go_wp2
            go_roundw
            case rel => exact ⟨fr, a + n, acc, by omega, by omega, rfl, by go_num, by omega, HN, HO2, HB2⟩
            case measure => simp [intOf]; omega
        · have h34' : (c == 34) = false := by simp [h34]
          have HU34 : Hid (u ≠ 34) := fun e => h34 (by have := HC.out; rw [e] at this; exact this)
          clear h34
          have HN : Hid (lst [] s.data.toList = (lst (piece s.data.toList fr (a + 1)) (s.data.toList.drop (a + 1))).map (acc ++ ·)) := by
            show lst _ _ = _
            rw [hst.out, HD.out, lst_on _ _ _ HU44.out HU34.out, HP.out]
          go_wp2
          go_roundw
          case rel => exact ⟨fr, a + 1, acc, by omega, by omega, rfl, by go_num, by omega, HN, hown, hbl⟩
          case measure => simp [intOf]; omega
    · obtain rfl : a = s.size := by omega
      have HE : Hid ((s.extract fr s.size).data.toList = piece s.data.toList fr s.size) := piece_ext s fr s.size
      have HN : Hid (listR s.data.toList = (acc ++ addEl (trim (piece s.data.toList fr s.size)) [], 0)) := listR_some (by
        rw [hst.out, show s.data.toList.drop s.size = [] from List.drop_of_length_le (by rw [size_list]; omega), lst_nil]
        rfl)
      go_wp2_with fail
      refine (appendElement_any w.heap.size _ acc (s.extract fr s.size) (by unfold maxLen; simp; omega) (by omega) _ hown.out hsz).mono ?_
      rintro e w2 ⟨v2, rfl, hown2, hb2⟩
      rw [HE.out] at hown2
      go_wp2
      go_ret2
      rw [HN.out]
      exact ⟨_, rfl, hown2, hbl.out.trans hb2⟩

end Oc
end Go.Proofs.YthdfgepnadgkjaaGreatDoor

/-
  Lists of tokens; texts held against texts.
-/
set_option linter.unusedVariables false
set_option linter.unusedSimpArgs false
namespace Go.Proofs.YthdfgepnadgkjaaGreatDoor
open Go.RowKit Go.Shelf
namespace Oc

def tokensR (l : List UInt8) : List (List UInt8) × Int := if (listR l).2 = 0 then (if (listR l).1.all isTok then ((listR l).1, 0) else ([], 10)) else ([], (listR l).2)
theorem listR_err (l : List UInt8) : (listR l).2 = 0 ∨ (listR l).1 = [] ∧ (listR l).2 = 14 := by
  unfold listR
  split
  · exact .inl rfl
  · exact .inr ⟨rfl, rfl⟩
theorem tokensR_err {l : List UInt8} (h : (listR l).2 = 14) : tokensR l = ([], 14) := by unfold tokensR; rw [if_neg (by omega), h]
theorem tokensR_bad {l : List UInt8} (h : (listR l).2 = 0) (k : Nat) (hk : k < (listR l).1.length) (hb : isTok ((listR l).1.getD k []) = false) : tokensR l = ([], 10) := by
  unfold tokensR
  rw [if_pos h, if_neg]
  rw [all_not isTok [] _ k hk hb]
  simp
theorem tokensR_ok {l : List UInt8} (h : (listR l).2 = 0) (hb : ∀ k, k < (listR l).1.length → isTok ((listR l).1.getD k []) = true) : tokensR l = ((listR l).1, 0) := by
  unfold tokensR
  rw [if_pos h, if_pos (all_of isTok [] _ hb)]

/-- Elements are no longer than the text, and as many. -/
def Short (n : Nat) (t : List (List UInt8)) : Prop := t.length ≤ n ∧ ∀ x ∈ t, x.length ≤ n
theorem short_lst : ∀ (m : Nat) (r cur : List UInt8) (t : List (List UInt8)), r.length ≤ m → lst cur r = some t → t.length ≤ r.length + 1 ∧ ∀ x ∈ t, x.length ≤ cur.length + r.length
  | m, [], cur, t, _, h => by
    rw [lst_nil] at h
    cases h
    have := addEl_len (trim cur)
    refine ⟨by simpa using this, fun x hx => ?_⟩
    unfold addEl at hx
    split at hx
    · simp at hx
    · simp at hx
      subst hx
      have := trim_le cur
      simp
      omega
  | 0, c :: r, cur, t, hm, _ => by simp at hm
  | m + 1, c :: r, cur, t, hm, h => by
    have hl : r.length ≤ m := by simpa using hm
    by_cases h44 : c = 44
    · rw [lst_comma _ _ _ h44] at h
      obtain ⟨u, hu, rfl⟩ := Option.map_eq_some_iff.1 h
      obtain ⟨i1, i2⟩ := short_lst m r [] u hl hu
      constructor
      · unfold addEl
        split <;> simp <;> omega
      · intro x hx
        unfold addEl at hx
        split at hx
        · have := i2 x hx
          simp at this ⊢
          omega
        · rcases List.mem_cons.1 hx with rfl | hx
          · have := trim_le cur
            simp
            omega
          · have := i2 x hx
            simp at this ⊢
            omega
    · by_cases h34 : c = 34
      · by_cases hq : qlen (c :: r) = 0
        · rw [lst_bad _ _ _ h34 hq] at h; cases h
        · rw [lst_quote _ _ _ h34 hq] at h
          have hb := qlen_bd (c :: r)
          obtain ⟨i1, i2⟩ := short_lst m _ _ t (by rw [List.length_drop]; simp; omega) h
          rw [List.length_drop] at i1 i2
          rw [List.length_append, List.length_take] at i2
          refine ⟨by omega, fun x hx => ?_⟩
          have := i2 x hx
          omega
      · rw [lst_on _ _ _ h44 h34] at h
        obtain ⟨i1, i2⟩ := short_lst m r _ t hl h
        rw [List.length_append] at i2
        refine ⟨by simp; omega, fun x hx => ?_⟩
        have := i2 x hx
        simp at this ⊢
        omega
theorem listR_short (l : List UInt8) : (listR l).1.length ≤ l.length + 1 ∧ ∀ x ∈ (listR l).1, x.length ≤ l.length := by
  unfold listR
  split
  · rename_i t h
    obtain ⟨a, b⟩ := short_lst l.length l [] t (Nat.le_refl _) h
    exact ⟨a, fun x hx => by have := b x hx; simpa using this⟩
  · simp
theorem getD_short {n : Nat} {t : List (List UInt8)} (h : ∀ x ∈ t, x.length ≤ n) (k : Nat) (hk : k < t.length) : (t.getD k []).length ≤ n := by
  refine h _ ?_
  rw [List.getD_eq_getElem?_getD, List.getElem?_eq_getElem hk]
  exact List.getElem_mem _

end Oc
end Go.Proofs.YthdfgepnadgkjaaGreatDoor

/-
  Texts held against texts: the law's own 'same'.
-/
set_option linter.unusedVariables false
set_option linter.unusedSimpArgs false
namespace Go.Proofs.YthdfgepnadgkjaaGreatDoor
open Go.RowKit Go.Shelf
namespace Oc

/-- A slice that reads as these texts. -/
def RdS (v : Value) (t : List (List UInt8)) (w : World) : Prop :=
  ∃ a c, v = .slice a t.length c ∧ (t = [] ∨ ∃ g o, a = some ⟨g, o, none⟩ ∧ t.length ≤ c ∧ ∀ j, j < t.length → w.cell? ⟨g, o + j, none⟩ = some (.string (str (t.getD j []))))
theorem OwnS.rd {B : Nat} {v : Value} {t : List (List UInt8)} {w : World} (h : OwnS B v t w) : RdS v t w := by
  obtain ⟨a, c, rfl⟩ := h.form
  refine ⟨a, c, rfl, ?_⟩
  cases t with
  | nil => exact .inl rfl
  | cons x t =>
    right
    obtain ⟨g, e, hc, _⟩ := h.cell 0 (by simp)
    refine ⟨g, 0, e, hc, fun j hj => ?_⟩
    obtain ⟨g', e', _, hcell⟩ := h.cell j hj
    rw [e] at e'
    injection e' with e'
    injection e' with e1
    subst e1
    rw [Nat.zero_add]
    exact hcell
theorem RdS.below {v : Value} {t : List (List UInt8)} {w w' : World} (h : RdS v t w) (b : Below w.heap.size w w') : RdS v t w' := by
  obtain ⟨a, c, rfl, h⟩ := h
  refine ⟨a, c, rfl, ?_⟩
  rcases h with h | ⟨g, o, e, hc, hcell⟩
  · exact .inl h
  · refine .inr ⟨g, o, e, hc, fun j hj => ?_⟩
    have h1 := hcell j hj
    rw [b.cell (p := ⟨g, o + j, none⟩) (World.block_lt_of_cell? w _ h1)]
    exact h1

theorem drawn_again (w : World) (n m : Nat) : Hid (∃ k, w.drewN (n + m) = w.drewN k) := ⟨_, rfl⟩
theorem drawn_twice (w : World) (n m : Nat) : ∃ k, (w.drewN n).drewN m = w.drewN k := ⟨n + m, World.drewN_drewN ..⟩

end Oc
end Go.Proofs.YthdfgepnadgkjaaGreatDoor
