/- Several texts as one. -/
import Derived.Test.YtenipnlpambehaaDoorZzJ
import Derived.Deep.Cut
import Derived.Deep.CutRange
import Derived.Deep.RegionHeld3
/-
  span, plainly: what a range header asks for.
-/
set_option linter.unusedVariables false
set_option linter.unusedSimpArgs false
namespace Go.Proofs.YtenipnlpambehaaDoor
open Go.RowKit Go.Shelf
namespace Sn
open Oc Tg Ac

theorem numOf_nonneg : ∀ (l : List UInt8) (n : Int), 0 ≤ n → 0 ≤ l.foldl (fun n c => n * 10 + valI (c.toNat : Int)) n
  | [], n, h => h
  | c :: l, n, h => by
    rw [List.foldl_cons]
    refine numOf_nonneg l _ ?_
    have := (valI_bd (c := (c.toNat : Int)) (by omega)).1
    omega
theorem numR_bd (l : List UInt8) (m : Int) (hm : 0 ≤ m) : 0 ≤ (numR 10 l m).1 ∧ (numR 10 l m).1 ≤ m ∧ ((numR 10 l m).2 = 0 ∨ (numR 10 l m).2 = 11 ∨ (numR 10 l m).2 = 12) := by
  unfold numR
  split
  · exact ⟨Int.le_refl _, hm, .inr (.inl rfl)⟩
  · split
    · exact ⟨Int.le_refl _, hm, .inr (.inr rfl)⟩
    · rename_i h
      exact ⟨numOf_nonneg l 0 (Int.le_refl _), by show numOf 10 l ≤ m; omega, .inl rfl⟩

/-- The number that digits say, as far as it counts. -/
def cnt (l : List UInt8) : Int × Bool := if (numR 10 l 4611686018427387904).2 = 12 then (4611686018427387904, true) else ((numR 10 l 4611686018427387904).1, decide ((numR 10 l 4611686018427387904).2 = 0))
theorem cnt_bd (l : List UInt8) : 0 ≤ (cnt l).1 ∧ (cnt l).1 ≤ 4611686018427387904 := by
  unfold cnt
  have := numR_bd l 4611686018427387904 (by omega)
  split <;> dsimp only <;> omega
/-- What an element asks for; whether it is one. -/
def askP (l : List UInt8) (size : Int) : Sp × Bool :=
  if has 45 l = false then ((0, 0), false)
  else if cutA 45 l = [] then ((size - (cnt (cutB 45 l)).1, size), (cnt (cutB 45 l)).2)
  else if cutB 45 l = [] then (((cnt (cutA 45 l)).1, size), (cnt (cutA 45 l)).2)
  else (((cnt (cutA 45 l)).1, (cnt (cutB 45 l)).1 + 1), ((cnt (cutA 45 l)).2 && (cnt (cutB 45 l)).2) && decide ((cnt (cutA 45 l)).1 ≤ (cnt (cutB 45 l)).1))
/-- What of a span lies in a body. -/
def wth (x : Sp) (size : Int) : Sp := (max x.1 0, min x.2 size)
def emp (x : Sp) : Bool := decide (x.2 ≤ x.1)
/-- The elements behind the unit; whether there are any. -/
def elR (l : List UInt8) : List (List UInt8) × Bool := if lower (cutA 61 l) = [98, 121, 116, 101, 115] then ((listR (cutB 61 l)).1, decide ((listR (cutB 61 l)).2 = 0) && decide (0 < (listR (cutB 61 l)).1.length)) else ([], false)
def keepN (size : Int) (x : List UInt8) : Option Sp := if emp (wth (askP x size).1 size) then none else some (wth (askP x size).1 size)
def ansR (size : Int) (t : List (List UInt8)) : List Sp × Int := if t.all (fun x => (askP x size).2) then (if (t.filterMap (keepN size)).length = 0 then ([], 91) else (t.filterMap (keepN size), 0)) else ([], 90)
/-- What a range header says. -/
def parR (l : List UInt8) (size : Int) : List Sp × Int := if size < 0 then ([], 1) else if (elR l).2 = false then ([], 90) else ansR size (elR l).1

theorem ansR_bad {size : Int} {t : List (List UInt8)} (k : Nat) (hk : k < t.length) (h : (askP (t.getD k []) size).2 = false) : ansR size t = ([], 90) := by
  unfold ansR
  rw [if_neg]
  intro hall
  rw [List.all_eq_true] at hall
  have := hall (t.getD k []) (by rw [List.getD_eq_getElem?_getD, List.getElem?_eq_getElem hk]; exact List.getElem_mem _)
  rw [h] at this
  cases this
theorem all_getD {t : List (List UInt8)} {p : List UInt8 → Bool} (h : ∀ j, j < t.length → p (t.getD j []) = true) : t.all p = true := by
  rw [List.all_eq_true]
  intro x hx
  obtain ⟨k, hk, rfl⟩ := List.mem_iff_getElem.1 hx
  have := h k hk
  rw [List.getD_eq_getElem?_getD, List.getElem?_eq_getElem hk] at this
  exact this
theorem ansR_ok {size : Int} {t : List (List UInt8)} (h : ∀ j, j < t.length → (askP (t.getD j []) size).2 = true) : ansR size t = (if (t.filterMap (keepN size)).length = 0 then ([], 91) else (t.filterMap (keepN size), 0)) := by
  unfold ansR
  rw [if_pos (all_getD (p := fun x => (askP x size).2) h)]
theorem take_keep (size : Int) (t : List (List UInt8)) (k : Nat) (hk : k < t.length) : (t.take (k + 1)).filterMap (keepN size) = (t.take k).filterMap (keepN size) ++ (keepN size (t.getD k [])).toList := by
  rw [List.take_succ_eq_append_getElem hk, List.filterMap_append, List.getD_eq_getElem?_getD, List.getElem?_eq_getElem hk]
  simp [List.filterMap_cons]
  cases keepN size t[k] <;> rfl
theorem keep_len (size : Int) (t : List (List UInt8)) (k : Nat) : ((t.take k).filterMap (keepN size)).length ≤ k := by
  have h := List.length_filterMap_le (keepN size) (t.take k)
  rw [List.length_take] at h
  omega

/-- What the document has of an element: a span, whether it can be met, whether it is one. -/
def oneR (l : List UInt8) (size : Int) : Sp × Bool × Bool :=
  if has 45 l = false then ((0, 0), false, false)
  else if cutA 45 l = [] then (if (cnt (cutB 45 l)).2 = false then ((0, 0), false, false) else ((if size - (cnt (cutB 45 l)).1 < 0 then 0 else size - (cnt (cutB 45 l)).1, size), decide (0 < size) && decide (0 < (cnt (cutB 45 l)).1), true))
  else if (cnt (cutA 45 l)).2 = false ∨ (cutB 45 l ≠ [] ∧ ((cnt (cutB 45 l)).2 = false ∨ (cnt (cutB 45 l)).1 < (cnt (cutA 45 l)).1)) then ((0, 0), false, false)
  else (((cnt (cutA 45 l)).1, if cutB 45 l ≠ [] ∧ (cnt (cutB 45 l)).1 < size then (cnt (cutB 45 l)).1 + 1 else size), decide ((cnt (cutA 45 l)).1 < size), true)
theorem oneR_ok (l : List UInt8) (size : Int) : (oneR l size).2.2 = (askP l size).2 := by
  unfold oneR askP
  by_cases h1 : has 45 l = false
  · rw [if_pos h1, if_pos h1]
  rw [if_neg h1, if_neg h1]
  by_cases h2 : cutA 45 l = []
  · rw [if_pos h2, if_pos h2]
    by_cases h3 : (cnt (cutB 45 l)).2 = false
    · rw [if_pos h3, h3]
    · rw [if_neg h3]
      simp at h3
      rw [h3]
  rw [if_neg h2, if_neg h2]
  by_cases h4 : cutB 45 l = []
  · rw [if_pos h4]
    cases h5 : (cnt (cutA 45 l)).2 with
    | false => rw [if_pos (.inl rfl)]
    | true => rw [if_neg]; rintro (h | ⟨h, _⟩); cases h; exact h h4
  · rw [if_neg h4]
    cases h5 : (cnt (cutA 45 l)).2 with
    | false => rw [if_pos (.inl rfl)]; rfl
    | true =>
      cases h6 : (cnt (cutB 45 l)).2 with
      | false => rw [if_pos (.inr ⟨h4, .inl rfl⟩)]; rfl
      | true =>
        by_cases h7 : (cnt (cutB 45 l)).1 < (cnt (cutA 45 l)).1
        · rw [if_pos (.inr ⟨h4, .inr h7⟩)]
          simp; omega
        · rw [if_neg]
          · simp; omega
          · rintro (h | ⟨_, h | h⟩)
            · cases h
            · cases h
            · exact h7 h
theorem oneR_keep (l : List UInt8) (size : Int) (h0 : 0 ≤ size) (h : (askP l size).2 = true) : (if (oneR l size).2.1 then some (oneR l size).1 else none) = keepN size l := by
  obtain ⟨a0, a1⟩ := cnt_bd (cutA 45 l)
  obtain ⟨b0, b1⟩ := cnt_bd (cutB 45 l)
  unfold keepN emp wth
  by_cases h1 : has 45 l = false
  · unfold askP at h; rw [if_pos h1] at h; cases h
  by_cases h2 : cutA 45 l = []
  · have e2 : askP l size = ((size - (cnt (cutB 45 l)).1, size), (cnt (cutB 45 l)).2) := by unfold askP; rw [if_neg h1, if_pos h2]
    rw [e2] at h ⊢
    have e1 : oneR l size = ((if size - (cnt (cutB 45 l)).1 < 0 then 0 else size - (cnt (cutB 45 l)).1, size), decide (0 < size) && decide (0 < (cnt (cutB 45 l)).1), true) := by
      unfold oneR; rw [if_neg h1, if_pos h2, if_neg (by rw [h]; simp)]
    rw [e1]
    dsimp only at h ⊢
    generalize (cnt (cutB 45 l)).1 = c at *
    by_cases h3 : 0 < size
    · by_cases h4 : 0 < c
      · rw [if_pos (by simp [h3, h4]), if_neg (show ¬ decide (min size size ≤ max (size - c) 0) = true by simp; omega)]
        congr 2
        · rw [Int.max_def]; split <;> split <;> omega
        · simp
      · rw [if_neg (by simp [h4]), if_pos (by simp; omega)]
    · rw [if_neg (by simp [h3]), if_pos (by simp; omega)]
  by_cases h4 : cutB 45 l = []
  · have e2 : askP l size = (((cnt (cutA 45 l)).1, size), (cnt (cutA 45 l)).2) := by unfold askP; rw [if_neg h1, if_neg h2, if_pos h4]
    rw [e2] at h ⊢
    have e1 : oneR l size = (((cnt (cutA 45 l)).1, size), decide ((cnt (cutA 45 l)).1 < size), true) := by
      unfold oneR
      rw [if_neg h1, if_neg h2, if_neg (by rintro (h' | h'); (rw [h] at h'; cases h'); exact h'.1 h4), if_neg (fun h' => h'.1 h4)]
    rw [e1]
    dsimp only at h ⊢
    generalize (cnt (cutA 45 l)).1 = c at *
    by_cases h5 : c < size
    · rw [if_pos (by simp [h5]), if_neg (by simp; omega)]
      congr 2
      · rw [Int.max_eq_left a0]
      · simp
    · rw [if_neg (by simp [h5]), if_pos (by simp; omega)]
  · have e2 : askP l size = (((cnt (cutA 45 l)).1, (cnt (cutB 45 l)).1 + 1), ((cnt (cutA 45 l)).2 && (cnt (cutB 45 l)).2) && decide ((cnt (cutA 45 l)).1 ≤ (cnt (cutB 45 l)).1)) := by unfold askP; rw [if_neg h1, if_neg h2, if_neg h4]
    rw [e2] at h ⊢
    simp only [Bool.and_eq_true, decide_eq_true_eq] at h
    obtain ⟨⟨k1, k2⟩, k3⟩ := h
    have e1 : oneR l size = (((cnt (cutA 45 l)).1, if cutB 45 l ≠ [] ∧ (cnt (cutB 45 l)).1 < size then (cnt (cutB 45 l)).1 + 1 else size), decide ((cnt (cutA 45 l)).1 < size), true) := by
      unfold oneR
      rw [if_neg h1, if_neg h2, if_neg (by rintro (h' | ⟨_, h' | h'⟩); (rw [k1] at h'; cases h'); (rw [k2] at h'; cases h'); omega)]
    rw [e1]
    dsimp only
    generalize (cnt (cutA 45 l)).1 = c at *
    generalize (cnt (cutB 45 l)).1 = d at *
    by_cases h5 : c < size
    · rw [if_pos (by simp [h5]), if_neg (show ¬ decide (min (d + 1) size ≤ max c 0) = true by simp; omega)]
      congr 2
      · rw [Int.max_eq_left a0]
      · by_cases h6 : d < size
        · rw [if_pos ⟨h4, h6⟩, Int.min_eq_left (by omega)]
        · rw [if_neg (fun h => h6 h.2), Int.min_eq_right (by omega)]
    · rw [if_neg (by simp [h5]), if_pos (by simp; omega)]

end Sn
end Go.Proofs.YtenipnlpambehaaDoor

/-
  span: count, asked, within, isEmpty, isSpan, rangeElements.
-/
set_option linter.unusedVariables false
set_option linter.unusedSimpArgs false
namespace Go.Proofs.YtenipnlpambehaaDoor
open Go.RowKit Go.Shelf
namespace Sn
open Oc Tg Ac

set_option maxHeartbeats 400000 in
theorem count_any (s : ByteArray) (hs : s.size ≤ 4000000000) (w : World) :
    Calls Tryd.prog 51 #[.string s] w fun e w' => e = .returned (.tuple #[.int .i64 (cnt s.data.toList).1, .bool (cnt s.data.toList).2]) ∧ Below w.heap.size w w' := by
  have HD : Hid (Calls _ _ _ _ _) := Decimal_any s (by unfold maxLen; omega) 4611686018427387904 (by omega) (by omega) w
  unfold cnt
  generalize numR 10 s.data.toList 4611686018427387904 = R at *
  obtain ⟨n, er⟩ := R
  dsimp only at *
  by_cases h : er = 12
  · rw [if_pos h]
    subst h
    go_enter Tryd.func51, Tryd.ntmps51
    go_wp2_with fail
    refine HD.out.mono ?_
    rintro e w2 ⟨rfl, hb⟩
    go_wp2
    go_ret2
    exact ⟨rfl, hb⟩
  · rw [if_neg h]
    have he : (er == 12) = false := by simp [h]
    have hq : decide (er = 0) = (er == 0) := by rw [Bool.eq_iff_iff]; simp
    dsimp only
    rw [hq]
    clear hq h
    go_enter Tryd.func51, Tryd.ntmps51
    go_wp2_with fail
    refine HD.out.mono ?_
    rintro e w2 ⟨rfl, hb⟩
    go_wp2
    go_ret2
    exact ⟨rfl, hb⟩

set_option maxHeartbeats 400000 in
theorem isEmpty_any (a b : Int) (w : World) :
    Calls Tryd.prog 31 #[.agg #[.int .i64 a, .int .i64 b]] w fun e w' => e = .returned (.bool (emp (a, b))) ∧ Below w.heap.size w w' := by
  unfold emp
  dsimp only
  go_enter Tryd.func31, Tryd.ntmps31
  go_wp2
  go_ret
  exact ⟨rfl, (Below.refl _ w).alloc (Nat.le_refl _) _⟩

set_option maxHeartbeats 400000 in
theorem within_any (a b size : Int) (w : World) :
    Calls Tryd.prog 30 #[.agg #[.int .i64 a, .int .i64 b], .int .i64 size] w fun e w' => e = .returned (.agg #[.int .i64 (wth (a, b) size).1, .int .i64 (wth (a, b) size).2]) ∧ Below w.heap.size w w' := by
  unfold wth
  dsimp only
  go_enter Tryd.func30, Tryd.ntmps30
  go_wp2
  refine bodyPost_ret (v := .agg #[.int .i64 (max a 0), .int .i64 (min b size)]) (by simp [results, Tryd.results30, go_sem]) rfl ?_
  refine ⟨rfl, ?_⟩
  repeat (first | exact Below.refl _ _ | refine Below.setCell ?_ (by simp) _ | refine Below.alloc ?_ (by simp) _)

set_option maxRecDepth 100000 in
set_option maxHeartbeats 1000000 in
theorem asked_any (s : ByteArray) (hs : s.size ≤ 4000000000) (size : Int) (z0 : 0 ≤ size) (z1 : size ≤ 9223372036854775807) (w : World) (hw : ML w) :
    Calls Tryd.prog 29 #[.string s, .int .i64 size] w fun e w' => e = .returned (.tuple #[.agg #[.int .i64 (askP s.data.toList size).1.1, .int .i64 (askP s.data.toList size).1.2], .bool (askP s.data.toList size).2]) ∧ Below w.heap.size w w' := by
  obtain ⟨w1, hw1⟩ : ∃ w1, w1 = w.alloc (.cells #[.int .i64 0, .int .i64 0] 44) := ⟨_, rfl⟩
  have y1 : w1.heap.size = w.heap.size + 1 := by rw [hw1]; simp
  have HA : Hid (PB 44 w1 w.heap.size (0, 0)) := (by rw [hw1]; exact heap_alloc_new w _ : PB _ _ _ _)
  have HB : Hid (Below w.heap.size w w1) := (by rw [hw1]; exact (Below.refl _ w).alloc (Nat.le_refl _) _ : Below _ _ _)
  have HC : Hid (Calls _ _ _ _ _) := Cut_one s 45 hs w1 (hw.below HB.out)
  have lA := cutA_len 45 s.data.toList
  have lB := cutB_len 45 s.data.toList
  rw [size_list] at lA lB
  have HNA : Hid (∀ W, Calls Tryd.prog 51 #[.string (str (cutA 45 s.data.toList))] W fun e w' => e = .returned (.tuple #[.int .i64 (cnt (cutA 45 s.data.toList)).1, .bool (cnt (cutA 45 s.data.toList)).2]) ∧ Below W.heap.size W w') := fun W => by
    have := count_any (str (cutA 45 s.data.toList)) (by rw [str_size]; omega) W
    rw [str_list] at this
    exact this
  have HNB : Hid (∀ W, Calls Tryd.prog 51 #[.string (str (cutB 45 s.data.toList))] W fun e w' => e = .returned (.tuple #[.int .i64 (cnt (cutB 45 s.data.toList)).1, .bool (cnt (cutB 45 s.data.toList)).2]) ∧ Below W.heap.size W w') := fun W => by
    have := count_any (str (cutB 45 s.data.toList)) (by rw [str_size]; omega) W
    rw [str_list] at this
    exact this
  clear hw lA lB
  obtain ⟨a0, a1⟩ := cnt_bd (cutA 45 s.data.toList)
  obtain ⟨b0, b1⟩ := cnt_bd (cutB 45 s.data.toList)
  have eA : (str (cutA 45 s.data.toList)).toList.isEmpty = decide (cutA 45 s.data.toList = []) := by rw [ByteArray.toList_eq, str_list, Bool.eq_iff_iff]; simp
  have eB : (str (cutB 45 s.data.toList)).toList.isEmpty = decide (cutB 45 s.data.toList = []) := by rw [ByteArray.toList_eq, str_list, Bool.eq_iff_iff]; simp
  unfold askP
  generalize has 45 s.data.toList = hs45 at *
  generalize cnt (cutA 45 s.data.toList) = NA at *
  generalize cnt (cutB 45 s.data.toList) = NB at *
  generalize str (cutA 45 s.data.toList) = SA at *
  generalize str (cutB 45 s.data.toList) = SB at *
  generalize cutA 45 s.data.toList = LA at *
  generalize cutB 45 s.data.toList = LB at *
  obtain ⟨na, oa⟩ := NA
  obtain ⟨nb, ob⟩ := NB
  dsimp only at *
  cases hs45 with
  | false =>
    rw [if_pos rfl]
    dsimp only
    go_enter Tryd.func29, Tryd.ntmps29
    go_wp2_with fail
    rw [← hw1]
    refine HC.out.mono ?_
    rintro e w3 ⟨rfl, hb3⟩
    have ha := HA.out.below hb3
    have q0 := ha.c0
    have q1 := ha.c1
    have g0 := ha.f 0
    have g1 := ha.f 1
    have HB3 : Hid (Below w.heap.size w w3) := HB.out.trans (hb3.mono (by omega))
    clear ha hb3
    go_wp2
    refine bodyPost_ret (v := .tuple #[.agg #[.int .i64 0, .int .i64 0], .bool false]) (by simp [results, Tryd.results29, go_sem, q0, q1]) rfl ?_
    refine ⟨rfl, ?_⟩
    repeat (first | exact HB3.out | refine Below.setCell ?_ (by simp) _ | refine Below.alloc ?_ (by simp; have := HB3.out.size; omega) _)
  | true =>
    rw [if_neg (by simp)]
    by_cases hA : LA = []
    · rw [if_pos hA]
      rw [decide_eq_true hA] at eA
      dsimp only
      clear hA
      go_enter Tryd.func29, Tryd.ntmps29
      go_wp2_with fail
      rw [← hw1]
      refine HC.out.mono ?_
      rintro e w3 ⟨rfl, hb3⟩
      have HA3 : Hid (PB _ _ _ _) := HA.out.below hb3
      have HB3 : Hid (Below w.heap.size w w3) := HB.out.trans (hb3.mono (by omega))
      clear hb3
      go_wp2_with fail
      refine (HNB.out _).mono ?_
      rintro e w4 ⟨rfl, hb4⟩
      have ha := HA3.out.below hb4
      have q0 := ha.c0
      have q1 := ha.c1
      have g0 := ha.f 0
      have g1 := ha.f 1
      have HB4 : Hid (Below w.heap.size w w4) := bel_trans HB3.out hb4
      clear ha hb4
      go_wp2
      refine bodyPost_ret (v := .tuple #[.agg #[.int .i64 (size - nb), .int .i64 size], .bool ob]) (by simp [results, Tryd.results29, go_sem, q0, q1]) rfl ?_
      refine ⟨rfl, ?_⟩
      repeat (first | exact HB4.out | refine Below.setCell ?_ (by simp) _ | refine Below.alloc ?_ (by simp; have := HB4.out.size; omega) _)
    · rw [if_neg hA]
      rw [decide_eq_false hA] at eA
      by_cases hB : LB = []
      · rw [if_pos hB]
        rw [decide_eq_true hB] at eB
        dsimp only
        clear hA hB
        go_enter Tryd.func29, Tryd.ntmps29
        go_wp2_with fail
        rw [← hw1]
        refine HC.out.mono ?_
        rintro e w3 ⟨rfl, hb3⟩
        have HA3 : Hid (PB _ _ _ _) := HA.out.below hb3
        have HB3 : Hid (Below w.heap.size w w3) := HB.out.trans (hb3.mono (by omega))
        clear hb3
        go_wp2_with fail
        refine (HNA.out _).mono ?_
        rintro e w4 ⟨rfl, hb4⟩
        have ha := HA3.out.below hb4
        have q0 := ha.c0
        have q1 := ha.c1
        have g0 := ha.f 0
        have g1 := ha.f 1
        have HB4 : Hid (Below w.heap.size w w4) := bel_trans HB3.out hb4
        clear ha hb4
        go_wp2
        refine bodyPost_ret (v := .tuple #[.agg #[.int .i64 na, .int .i64 size], .bool oa]) (by simp [results, Tryd.results29, go_sem, q0, q1]) rfl ?_
        refine ⟨rfl, ?_⟩
        repeat (first | exact HB4.out | refine Below.setCell ?_ (by simp) _ | refine Below.alloc ?_ (by simp; have := HB4.out.size; omega) _)
      · rw [if_neg hB]
        rw [decide_eq_false hB] at eB
        dsimp only
        clear hA hB
        go_enter Tryd.func29, Tryd.ntmps29
        go_wp2_with fail
        rw [← hw1]
        refine HC.out.mono ?_
        rintro e w3 ⟨rfl, hb3⟩
        have HA3 : Hid (PB _ _ _ _) := HA.out.below hb3
        have HB3 : Hid (Below w.heap.size w w3) := HB.out.trans (hb3.mono (by omega))
        clear hb3
        go_wp2_with fail
        refine (HNA.out _).mono ?_
        rintro e w4 ⟨rfl, hb4⟩
        have HA4 : Hid (PB _ _ _ _) := HA3.out.below hb4
        have HB4 : Hid (Below w.heap.size w w4) := bel_trans HB3.out hb4
        clear hb4
        go_wp2_with fail
        refine (HNB.out _).mono ?_
        rintro e w5 ⟨rfl, hb5⟩
        have ha := HA4.out.below hb5
        have q0 := ha.c0
        have q1 := ha.c1
        have g0 := ha.f 0
        have g1 := ha.f 1
        have HB5 : Hid (Below w.heap.size w w5) := bel_trans HB4.out hb5
        clear ha hb5
        cases oa <;> cases ob
        all_goals
          go_wp2
          refine bodyPost_ret (v := .tuple #[.agg #[.int .i64 na, .int .i64 (nb + 1)], .bool _]) (by simp [results, Tryd.results29, go_sem, q0, q1]; rfl) rfl ?_
          refine ⟨by simp, ?_⟩
          repeat (first | exact HB5.out | refine Below.setCell ?_ (by simp) _ | refine Below.alloc ?_ (by simp; have := HB5.out.size; omega) _)

set_option maxRecDepth 100000 in
set_option maxHeartbeats 1000000 in
theorem rangeElements_any (s : ByteArray) (hs : s.size ≤ 1048576) (w : World) (hw : ML w) :
    Calls Tryd.prog 28 #[.string s] w fun e w' => ∃ v, e = .returned (.tuple #[v, .bool (elR s.data.toList).2]) ∧ ((elR s.data.toList).2 = true → OwnS w.heap.size v (elR s.data.toList).1 w') ∧ Below w.heap.size w w' := by
  have HC : Hid (Calls _ _ _ _ _) := Cut_one s 61 (by omega) w hw
  have lA := cutA_len 61 s.data.toList
  have lB := cutB_len 61 s.data.toList
  rw [size_list] at lA lB
  have hu : lowS (str [98, 121, 116, 101, 115]) = str [98, 121, 116, 101, 115] := by decide +kernel
  have HS : Hid (∀ W, Calls Tryd.prog 49 #[.string (str (cutA 61 s.data.toList)), .string ⟨#[98, 121, 116, 101, 115]⟩] W fun e w' => e = .returned (.bool (decide (lower (cutA 61 s.data.toList) = [98, 121, 116, 101, 115]))) ∧ Below W.heap.size W w') := fun W => by
    have h := Same_any (str (cutA 61 s.data.toList)) (str [98, 121, 116, 101, 115]) (by rw [str_size]; unfold maxLen; omega) (by decide +kernel) W
    have e : decide (lowS (str (cutA 61 s.data.toList)) = lowS (str [98, 121, 116, 101, 115])) = decide (lower (cutA 61 s.data.toList) = [98, 121, 116, 101, 115]) := by
      rw [hu, decide_eq_decide]
      unfold lowS
      rw [str_list]
      exact ⟨fun h => str_inj h, fun h => by rw [h]⟩
    rw [e] at h
    exact h
  have HL : Hid (∀ W, Calls Tryd.prog 50 #[.string (str (cutB 61 s.data.toList))] W fun e w' => ∃ v, e = .returned (.tuple #[v, .int .i64 (listR (cutB 61 s.data.toList)).2]) ∧ OwnS W.heap.size v (listR (cutB 61 s.data.toList)).1 w' ∧ Below W.heap.size W w') := fun W => by
    have h := List_any (str (cutB 61 s.data.toList)) (by rw [str_size]; omega) W
    rw [str_list] at h
    exact h
  have hn := (listR_short (cutB 61 s.data.toList)).1
  clear hw hu
  unfold elR
  generalize listR (cutB 61 s.data.toList) = LR at *
  generalize str (cutA 61 s.data.toList) = SA at *
  generalize str (cutB 61 s.data.toList) = SB at *
  generalize lower (cutA 61 s.data.toList) = LA at *
  generalize has 61 s.data.toList = h61 at *
  obtain ⟨t, er⟩ := LR
  dsimp only at *
  by_cases hA : LA = [98, 121, 116, 101, 115]
  · rw [if_pos hA]
    rw [decide_eq_true hA] at HS
    dsimp only
    clear hA
    go_enter Tryd.func28, Tryd.ntmps28
    go_wp2_with fail
    refine HC.out.mono ?_
    rintro e w3 ⟨rfl, hb3⟩
    have HB3 : Hid (Below w.heap.size w w3) := hb3
    clear hb3
    go_wp2_with fail
    refine (HS.out _).mono ?_
    rintro e w4 ⟨rfl, hb4⟩
    have HB4 : Hid (Below w.heap.size w w4) := bel_trans HB3.out hb4
    clear hb4
    go_wp2_with fail
    refine (HL.out _).mono ?_
    rintro e w5 ⟨v, rfl, ho, hb5⟩
    have HB5 : Hid (Below w.heap.size w w5) := bel_trans HB4.out hb5
    have HO : Hid (OwnS w.heap.size v t w5) := ho.lower HB4.out.size
    obtain ⟨va, vc, rfl⟩ := ho.form
    clear hb5 ho
    by_cases hz : er = 0
    · subst hz
      go_wp2
      go_ret2
      exact ⟨_, rfl, (fun _ => HO.out), HB5.out⟩
    · have hz' : (er == 0) = false := by simp [hz]
      have HQ : Hid ((decide (er = 0) && decide (0 < t.length)) = false) := (by simp [hz] : (decide (er = 0) && decide (0 < t.length)) = false)
      go_wp2
      go_ret2
      rw [HQ.out]
      exact ⟨_, rfl, (fun _ => HO.out), HB5.out⟩
  · rw [if_neg hA]
    rw [decide_eq_false hA] at HS
    dsimp only
    clear hA
    go_enter Tryd.func28, Tryd.ntmps28
    go_wp2_with fail
    refine HC.out.mono ?_
    rintro e w3 ⟨rfl, hb3⟩
    have HB3 : Hid (Below w.heap.size w w3) := hb3
    clear hb3
    go_wp2_with fail
    refine (HS.out _).mono ?_
    rintro e w4 ⟨rfl, hb4⟩
    have HB4 : Hid (Below w.heap.size w w4) := bel_trans HB3.out hb4
    clear hb4
    go_wp2
    go_ret2
    exact ⟨_, rfl, (fun h => by cases h), HB4.out⟩

end Sn
end Go.Proofs.YtenipnlpambehaaDoor

/-
  slices.IndexFunc and slices.DeleteFunc at spans, with isEmpty.
-/
set_option linter.unusedVariables false
set_option linter.unusedSimpArgs false
namespace Go.Proofs.YtenipnlpambehaaDoor
open Go.RowKit
namespace Sn
open Oc

def idxE (d : List Sp) : Int := match d.findIdx? emp with | some k => (k : Int) | none => -1
theorem nthN_mem {d : List Sp} {k : Nat} (h : k < d.length) : nthN d k = d[k] := by
  unfold nthN
  rw [List.getD_eq_getElem?_getD, List.getElem?_eq_getElem h]
  rfl
theorem idxE_at {d : List Sp} {k : Nat} (hk : k < d.length) (h : emp (nthN d k) = true) (hall : ∀ j, j < k → emp (nthN d j) = false) : idxE d = k := by
  unfold idxE
  have : d.findIdx? emp = some k := by
    rw [List.findIdx?_eq_some_iff_getElem]
    exact ⟨hk, by rw [← nthN_mem hk]; exact h, fun j hj => by rw [← nthN_mem (by omega), hall j hj]; simp⟩
  rw [this]
theorem idxE_none {d : List Sp} (hall : ∀ j, j < d.length → emp (nthN d j) = false) : idxE d = -1 ∧ d.filter (fun x => !emp x) = d := by
  have h : ∀ x ∈ d, emp x = false := fun x hx => by
    obtain ⟨k, hk, rfl⟩ := List.mem_iff_getElem.1 hx
    rw [← nthN_mem hk]
    exact hall k hk
  constructor
  · unfold idxE
    have : d.findIdx? emp = none := by
      rw [List.findIdx?_eq_none_iff]
      exact h
    rw [this]
  · rw [List.filter_eq_self]
    intro x hx
    rw [h x hx]
    rfl
theorem idxE_cases (d : List Sp) : (idxE d = -1 ∧ d.filter (fun x => !emp x) = d) ∨ (∃ k : Nat, k < d.length ∧ idxE d = k ∧ (d.take (k + 1)).filter (fun x => !emp x) = d.take k) := by
  cases h : d.findIdx? emp with
  | none =>
    left
    rw [List.findIdx?_eq_none_iff] at h
    exact idxE_none (fun j hj => h _ (by rw [nthN_mem hj]; exact List.getElem_mem _))
  | some k =>
    right
    rw [List.findIdx?_eq_some_iff_getElem] at h
    obtain ⟨hk, h1, h2⟩ := h
    refine ⟨k, hk, idxE_at hk (by rw [nthN_mem hk]; exact h1) (fun j hj => by rw [nthN_mem (by omega)]; simpa using h2 j hj), ?_⟩
    rw [List.take_succ_eq_append_getElem hk, List.filter_append]
    have e1 : (d.take k).filter (fun x => !emp x) = d.take k := by
      rw [List.filter_eq_self]
      intro x hx
      obtain ⟨j, hj, rfl⟩ := List.mem_iff_getElem.1 hx
      rw [List.length_take] at hj
      rw [List.getElem_take]
      simpa using h2 j (by omega)
    rw [e1]
    simp [h1]

set_option maxRecDepth 100000 in
set_option maxHeartbeats 1000000 in
theorem IndexFunc_e (g n c : Nat) (d : List Sp) (hd : d.length = n) (hn : n ≤ 4294967296) (w : World) (hrw : RW 44 w g d) :
    Calls Tryd.prog 52 #[.slice (some ⟨g, 0, none⟩) n c, .func (.func 31) #[] #[]] w fun e w' => e = .returned (.int .i64 (idxE d)) ∧ Below w.heap.size w w' := by
  have HR : Hid (RW 44 w g d) := hrw
  clear hrw
  go_enter Tryd.func52, Tryd.ntmps52
  go_wp2
  go_loopw [8] (fun i wr => ∃ k : Nat, k ≤ n ∧ i = .int .i64 k ∧ Hid (∀ j, j < k → emp (nthN d j) = false) ∧ Hid (Below w.heap.size w wr)) (fun i _ => n - (intOf i).toNat)
  case atStart => exact ⟨0, Nat.zero_le _, rfl, (fun j hj => by omega : ∀ j, j < 0 → _), Below.refl _ _⟩
  case round =>
    obtain ⟨k, hk, rfl, hall, hbl⟩ := hrel
    by_cases hlt : k < n
    · have hr := HR.out.below hbl.out
      have p0 := hr.c0 k (by omega)
      have p1 := hr.c1 k (by omega)
      clear hr
      have HN : Hid (∀ W, Calls _ _ _ W _) := fun W => isEmpty_any (nthN d k).1 (nthN d k).2 W
      have HT : emp (nthN d k) = true → Hid (idxE d = k) := fun h => idxE_at (by omega) h hall.out
      have HF : emp (nthN d k) = false → Hid (∀ j, j < k + 1 → emp (nthN d j) = false) := fun h j hj => by
        by_cases hjk : j = k
        · subst hjk; exact h
        · exact hall.out j (by omega)
      rw [show ((nthN d k).1, (nthN d k).2) = nthN d k from rfl] at HN
      generalize emp (nthN d k) = b at HN HT HF
      generalize (nthN d k).1 = X at *
      generalize (nthN d k).2 = Y at *
      cases b with
      | true =>
        have HT2 := HT rfl
        clear HT HF
        go_wp2_with fail
        refine (HN.out _).mono ?_
        rintro e w2 ⟨rfl, hb2⟩
        have HB2 : Hid (Below w.heap.size w w2) := bel_trans hbl.out hb2
        clear hb2
        go_wp2
        go_ret
        exact ⟨ret_int HT2.out.symm, HB2.out⟩
      | false =>
        have HF2 := HF rfl
        clear HT HF
        go_wp2_with fail
        refine (HN.out _).mono ?_
        rintro e w2 ⟨rfl, hb2⟩
        have HB2 : Hid (Below w.heap.size w w2) := bel_trans hbl.out hb2
        clear hb2
        go_wp2
        go_roundw
        case rel => exact ⟨k + 1, by omega, by go_num, HF2, HB2⟩
        case measure => simp [intOf]; omega
    · have HE : Hid (idxE d = -1) := (idxE_none (fun j hj => hall.out j (by omega))).1
      go_wp2
      go_ret
      exact ⟨ret_int HE.out.symm, hbl.out⟩

theorem encN_app (a b : List Sp) : encN (a ++ b) = encN a ++ encN b := by unfold encN; rw [List.flatMap_append]
theorem encN_take : ∀ (d : List Sp) (i : Nat), encN (d.take i) = (encN d).take (i * 2)
  | [], i => by simp [encN]
  | x :: d, 0 => by simp [encN]
  | x :: d, i + 1 => by
    have e : ∀ (y : Sp) (t : List Sp), encN (y :: t) = .int .i64 y.1 :: .int .i64 y.2 :: encN t := fun _ _ => rfl
    rw [List.take_succ_cons, e, e, encN_take d i, show (i + 1) * 2 = i * 2 + 1 + 1 by omega]
    simp
theorem run_clearN (w : World) (ty : TypeId) (g i m c : Nat) (d : List Sp) (hg : RW 44 w g d) (hm : 0 < m) (hd : i + m = d.length) :
    (Builtin.clear_ #[32] ty #[.slice (some ⟨g, i * 2, none⟩) m c]).run Tryd.prog w = .ok (.tuple #[]) (w.setRow g (encN (d.take i ++ List.replicate m (0, 0))).toArray) := by
  obtain ⟨i0, hi, hz0, hz1, hz2⟩ := info_parts infoN
  have h1 := encN_one (List.replicate m ((0, 0) : Sp))
  have hst := run_storeCells_at Tryd.prog g (i * 2) 44 (encN (List.replicate m ((0, 0) : Sp))) 0 (encN d).toArray w hg (by simp [encN_len]; omega) h1
  have hz : (Builtin.zeroCells (Value.agg #[.int .i64 0, .int .i64 0]).cells m).toList = encN (List.replicate m ((0, 0) : Sp)) := by
    show (madeCells #[(.int .i64 0 : Value), .int .i64 0] (m * 2)).toList = _
    rw [made2]
  obtain ⟨m', rfl⟩ : ∃ m', m = m' + 1 := ⟨m - 1, by omega⟩
  simp [Builtin.clear_, run_underlying Tryd.underlying32, zeroValue, typeInfo, hi, hz0, hz, hst]
  rw [encN_app, encN_take, List.drop_of_length_le (by rw [encN_len, encN_len]; simp; omega), List.append_nil]

theorem below_setRow {B : Nat} {w w' : World} {g : Nat} (h : Below B w w') (hg : B ≤ g) (cs : Array Value) : Below B w (w'.setRow g cs) := by
  refine ⟨h.os, h.tape, h.output, ?_, fun k hk => ?_⟩
  · have := h.size
    simp [World.setRow]
    omega
  · rw [← h.block k hk]
    simp [World.setRow, Array.getElem?_modify]
    omega
theorem RW.setRow {T : Nat} {w : World} {g : Nat} {d : List Sp} (h : RW T w g d) (t : List Sp) : RW T (w.setRow g (encN t).toArray) g t := by
  unfold RW at h ⊢
  simp [World.setRow, Array.getElem?_modify, h]

set_option maxRecDepth 100000 in
set_option maxHeartbeats 2000000 in
theorem DeleteFunc_e (g n c : Nat) (d : List Sp) (hd : d.length = n) (hn : n ≤ 4294967296) (hc : n ≤ c) (w : World) (hrw : RW 44 w g d) :
    Calls Tryd.prog 32 #[.slice (some ⟨g, 0, none⟩) n c, .func (.func 31) #[] #[]] w fun e w' => ∃ d' : List Sp, e = .returned (.slice (some ⟨g, 0, none⟩) (d.filter (fun x => !emp x)).length c) ∧ RW 44 w' g d' ∧ d'.length = n ∧ d'.take (d.filter (fun x => !emp x)).length = d.filter (fun x => !emp x) ∧ Below g w w' := by
  have HR : Hid (RW 44 w g d) := hrw
  have HI : Hid (Calls _ _ _ w _) := IndexFunc_e g n c d hd hn w hrw
  have hgw := hrw.lt
  clear hrw
  rcases idxE_cases d with ⟨hi, hf⟩ | ⟨k0, hk0, hi, hf⟩
  · rw [hi] at HI
    rw [hf]
    have HD : Hid (d.length = n) := hd
    clear hf hi
    go_enter Tryd.func32, Tryd.ntmps32
    go_wp2_with fail
    refine HI.out.mono ?_
    rintro e w2 ⟨rfl, hb2⟩
    have HB2 : Hid (Below w.heap.size w w2) := hb2
    clear hb2
    go_wp2
    go_ret
    exact ⟨d, by rw [HD.out]; rfl, HR.out.below HB2.out, HD.out, by rw [List.take_length], HB2.out.mono (by omega)⟩
  · rw [hi] at HI
    have HF0 : Hid ((d.take (k0 + 1)).filter (fun x => !emp x) = d.take k0) := hf
    clear hf hi
    have hneg : ((k0 : Int) == -1) = false := by rw [beq_eq_false_iff_ne]; omega
    go_enter Tryd.func32, Tryd.ntmps32
    go_wp2_with fail
    refine HI.out.mono ?_
    rintro e w2 ⟨rfl, hb2⟩
    have HB2 : Hid (Below g w w2) := hb2.mono (by omega)
    have HR2 : Hid (RW 44 w2 g d) := HR.out.below hb2
    clear hb2
    go_wp2
    go_loopw [5, 6] (fun iv jv wr => ∃ (i j : Nat) (d' : List Sp), i < j ∧ j ≤ n ∧ iv = .int .i64 i ∧ jv = .int .i64 j ∧ Hid (RW 44 wr g d') ∧ d'.length = n ∧ Hid (d'.take i = (d.take j).filter (fun x => !emp x)) ∧ Hid (∀ k, j ≤ k → nthN d' k = nthN d k) ∧ Hid (i = ((d.take j).filter (fun x => !emp x)).length) ∧ Hid (Below g w wr)) (fun _ jv _ => n - (intOf jv).toNat)
    case atStart =>
      refine ⟨k0, k0 + 1, d, by omega, by omega, rfl, by go_num, HR2, hd, ?_, (fun k _ => rfl : ∀ k, _), ?_, HB2⟩
      · exact (HF0.out.symm : d.take k0 = _)
      · exact (by rw [HF0.out, List.length_take]; omega : k0 = ((d.take (k0 + 1)).filter (fun x => !emp x)).length)
    case round =>
      obtain ⟨i, j, d', hij, hj, rfl, rfl, hrw, hl', htk, hrest, hlen, hbl⟩ := hrel
      by_cases hlt : j < n
      · have p0 := hrw.out.c0 j (by omega)
        have p1 := hrw.out.c1 j (by omega)
        have hnj := hrest.out j (Nat.le_refl _)
        rw [hnj] at p0 p1
        have HN : Hid (∀ W, Calls _ _ _ W _) := fun W => isEmpty_any (nthN d j).1 (nthN d j).2 W
        rw [show ((nthN d j).1, (nthN d j).2) = nthN d j from rfl] at HN
        have htj : d.take (j + 1) = d.take j ++ [nthN d j] := by rw [List.take_succ_eq_append_getElem (by omega), nthN_mem]
        have HE : Hid (emp (nthN d j) = true → (d.take (j + 1)).filter (fun x => !emp x) = (d.take j).filter (fun x => !emp x)) := (fun h => by rw [htj, List.filter_append]; simp [h] : _ → _ = _)
        have HK : Hid (emp (nthN d j) = false → (d.take (j + 1)).filter (fun x => !emp x) = (d.take j).filter (fun x => !emp x) ++ [nthN d j]) := (fun h => by rw [htj, List.filter_append]; simp [h] : _ → _ = _)
        clear htj hnj
        obtain ⟨X, hX⟩ : ∃ X, X = nthN d j := ⟨_, rfl⟩
        rw [← hX] at p0 p1 HN HE HK
        obtain ⟨x1, x2⟩ := X
        dsimp only at *
        have hgr : g < wr.heap.size := hrw.out.lt
        obtain ⟨w5, hw5⟩ : ∃ w5, w5 = wr.alloc (.cells #[.int .i64 x1, .int .i64 x2] 44) := ⟨_, rfl⟩
        have HP5 : Hid (PB 44 w5 wr.heap.size (x1, x2)) := (by rw [hw5]; exact PB.new _ wr (x1, x2) : PB _ _ _ _)
        have HB5 : Hid (Below wr.heap.size wr w5) := (by rw [hw5]; exact (Below.refl _ wr).alloc (Nat.le_refl _) _ : Below _ _ _)
        have q0 := HP5.out.c0
        have q1 := HP5.out.c1
        generalize hgx : wr.heap.size = gx at *
        go_wp2_with fail
        rw [← hw5]
        clear hw5
        refine (HN.out _).mono ?_
        rintro e w6 ⟨rfl, hb6⟩
        have HP6 : Hid (PB _ _ _ _) := HP5.out.below hb6
        have HB6 : Hid (Below wr.heap.size wr w6) := (by rw [hgx]; exact HB5.out.trans (hb6.mono (by have := HB5.out.size; omega)) : Below _ _ _)
        have HR6 : Hid (RW 44 w6 g d') := hrw.out.below HB6.out
        have HBg : Hid (Below g w w6) := hbl.out.trans (HB6.out.mono (by omega))
        clear hb6
        cases hem : emp (x1, x2) with
        | true =>
          have HE2 := HE.out hem
          have HT2 : Hid (d'.take i = (d.take (j + 1)).filter (fun x => !emp x)) := (by rw [HE2]; exact htk.out : _ = _)
          have HL2 : Hid (i = ((d.take (j + 1)).filter (fun x => !emp x)).length) := (by rw [HE2]; exact hlen.out : _ = _)
          clear HE2 HE HK hem hX
          go_wp2
          go_roundw
          case rel => exact ⟨i, j + 1, d', by omega, by omega, rfl, by go_num, HR6, hl', HT2, (fun k hk => hrest.out k (by omega) : ∀ k, _), HL2, HBg⟩
          case measure => simp [intOf]; omega
        | false =>
          have HK2 := HK.out hem
          have r0 := HP6.out.c0
          have r1 := HP6.out.c1
          have s0 := HR6.out.c0 i (by omega)
          have s1 := HR6.out.c1 i (by omega)
          have f0 := HR6.out.f (i * 2)
          have f1 := HR6.out.f (i * 2 + 1)
          obtain ⟨w7, hw7⟩ : ∃ w7, w7 = (w6.setCell ⟨g, i * 2, none⟩ (.int .i64 x1)).setCell ⟨g, i * 2 + 1, none⟩ (.int .i64 x2) := ⟨_, rfl⟩
          have HR7 : Hid (RW 44 w7 g (d'.set i (x1, x2))) := (by rw [hw7]; exact HR6.out.set i x1 x2 : RW _ _ _ _)
          have HB7 : Hid (Below g w w7) := (by rw [hw7]; exact (HBg.out.setCell (Nat.le_refl _) _).setCell (Nat.le_refl _) _ : Below _ _ _)
          have HT2 : Hid ((d'.set i (x1, x2)).take (i + 1) = (d.take (j + 1)).filter (fun x => !emp x)) := (by
            rw [HK2, ← htk.out, List.take_succ_eq_append_getElem (by simp; omega), List.take_set_of_le (Nat.le_refl _)]
            simp : _ = _)
          have HL2 : Hid (i + 1 = ((d.take (j + 1)).filter (fun x => !emp x)).length) := (by rw [HK2, List.length_append, ← hlen.out]; rfl : _ = _)
          have HS2 : Hid (∀ k, j + 1 ≤ k → nthN (d'.set i (x1, x2)) k = nthN d k) := (fun k hk => by
            rw [← hrest.out k (by omega)]
            unfold nthN
            rw [List.getD_eq_getElem?_getD, List.getD_eq_getElem?_getD, List.getElem?_set_ne (by omega)] : ∀ k, _)
          clear HK2 HE HK hem hX
          go_wp2_with fail
          rw [← hw7]
          clear hw7
          go_wp2
          go_roundw
          case rel => exact ⟨i + 1, j + 1, d'.set i (x1, x2), by omega, by omega, by go_num, by go_num, HR7, by simp [hl'], HT2, HS2, HL2, HB7⟩
          case measure => simp [intOf]; omega
      · obtain rfl : j = n := by omega
        have htl : d.take j = d := List.take_of_length_le (by omega)
        rw [htl] at htk hlen
        have hcl := run_clearN wr 0 g i (j - i) (c - i) d' hrw.out (by omega) (by omega)
        have HR8 : Hid (RW 44 (wr.setRow g (encN (d'.take i ++ List.replicate (j - i) (0, 0))).toArray) g (d'.take i ++ List.replicate (j - i) (0, 0))) := hrw.out.setRow _
        have HB8 : Hid (Below g w (wr.setRow g (encN (d'.take i ++ List.replicate (j - i) (0, 0))).toArray)) := below_setRow hbl.out (Nat.le_refl _) _
        go_wp2
        go_ret
        refine ⟨_, ?_, HR8.out, ?_, ?_, HB8.out⟩
        · rw [← hlen.out]; rfl
        · simp; omega
        · rw [← hlen.out, ← htk.out, List.take_append_of_le_length (by simp; omega), List.take_take, Nat.min_self]

end Sn
end Go.Proofs.YtenipnlpambehaaDoor
