/- Several texts as one. -/
import Derived.Test.YthfckgdaencagaaGreatDoorMgC1
import Derived.Test.YthfckgdaencagaaGreatDoorAOr
import Derived.Test.YthfckgdaencagaaGreatDoorMgB1
/-
  accept.Ranges.
-/
set_option linter.unusedVariables false
set_option linter.unusedSimpArgs false
namespace Go.Proofs.YthfckgdaencagaaGreatDoor
open Go.RowKit Go.Shelf
namespace Ac
open Oc Tg

abbrev Rx := Med × Int
def rx0 : Rx := (([], [], []), 0)
/-- Ranges, plainly. -/
def rgs : List (List UInt8) → List Rx × Int
  | [] => ([], 0)
  | x :: r => if (rgR x).2 ≠ 0 then ([], (rgR x).2) else if (rgs r).2 ≠ 0 then ([], (rgs r).2) else ((rgR x).1 :: (rgs r).1, 0)
def rangesR (l : List UInt8) : List Rx × Int := if (listR l).2 ≠ 0 then ([], (listR l).2) else rgs (listR l).1
theorem rgs_err : ∀ (t : List (List UInt8)) (k : Nat), k < t.length → (∀ j, j < k → (rgR (t.getD j [])).2 = 0) → (rgR (t.getD k [])).2 ≠ 0 → rgs t = ([], (rgR (t.getD k [])).2)
  | [], k, h, _, _ => by simp at h
  | x :: t, 0, _, _, h => by
    have h' : (rgR x).2 ≠ 0 := h
    unfold rgs
    rw [if_pos h']
    rfl
  | x :: t, k + 1, hk, hall, h => by
    have h0 : (rgR x).2 = 0 := hall 0 (by omega)
    have ih := rgs_err t k (by simpa using hk) (fun j hj => hall (j + 1) (by omega)) h
    have e : (x :: t).getD (k + 1) [] = t.getD k [] := by simp
    rw [e] at h ⊢
    unfold rgs
    rw [if_neg (by simp [h0]), ih, if_pos h]
theorem rgs_ok : ∀ (t : List (List UInt8)), (∀ j, j < t.length → (rgR (t.getD j [])).2 = 0) → rgs t = (t.map (fun x => (rgR x).1), 0)
  | [], _ => rfl
  | x :: t, h => by
    have h0 : (rgR x).2 = 0 := h 0 (by simp)
    have ih := rgs_ok t (fun j hj => by have := h (j + 1) (by simpa using hj); simpa using this)
    unfold rgs
    rw [if_neg (by simp [h0]), ih, if_neg (by simp)]
    rfl
theorem take_rg (t : List (List UInt8)) (k : Nat) (h : k < t.length) : (t.take (k + 1)).map (fun x => (rgR x).1) = (t.take k).map (fun x => (rgR x).1) ++ [(rgR (t.getD k [])).1] := by
  rw [List.take_add_one, List.getElem?_eq_getElem h, List.map_append, List.getD_eq_getElem?_getD, List.getElem?_eq_getElem h]
  rfl
/-- Ranges as they lie, against ranges that were read. -/
def LikeT (T : Nat) (ms : List Rw) (xs : List Rx) (W : World) : Prop := ms.length = xs.length ∧ ∀ j, j < ms.length → (nthO ms j).ty = str (xs.getD j rx0).1.1 ∧ (nthO ms j).sub = str (xs.getD j rx0).1.2.1 ∧ (nthO ms j).q = (xs.getD j rx0).2 ∧ RdP (.slice (nthO ms j).a (nthO ms j).n (nthO ms j).c) (xs.getD j rx0).1.2.2 W ∧ TyB (.slice (nthO ms j).a (nthO ms j).n (nthO ms j).c) T W
theorem LikeT.nil (T : Nat) (W : World) : LikeT T [] [] W := ⟨rfl, fun j hj => by simp at hj⟩
theorem LikeT.below {T : Nat} {ms : List Rw} {xs : List Rx} {W W' : World} (h : LikeT T ms xs W) (b : Below W.heap.size W W') : LikeT T ms xs W' := ⟨h.1, fun j hj => by
  obtain ⟨h1, h2, h3, h4, h5⟩ := h.2 j hj
  exact ⟨h1, h2, h3, h4.below b, h5.below b⟩⟩
theorem ownO_ne {T T' B : Nat} {v u : Value} {t : List Rw} {W : World} (ho : OwnO T B v t W) (hu : TyB u T' W) (hT : T' ≠ T) : ∀ b, u.ownBlock = some b → v.ownBlock ≠ some b := fun b hb e => by
  obtain ⟨cs, fz, h⟩ := hu b hb
  rcases ho.2 with ⟨rfl, _⟩ | ⟨g2, cap2, cur2, rfl, _, hg2, _⟩
  · cases e
  · have e' : g2 = b := by simpa [Value.ownBlock] using e
    subst e'
    rw [h] at hg2
    simp at hg2
    exact hT hg2.2.1
theorem keepRd {T T' B : Nat} {v u : Value} {t : List Rw} {ps : List Prm} {W w' : World} (ho : OwnO T B v t W) (hr : RdP u ps W) (hu : TyB u T' W) (hT : T' ≠ T) (hk : ∀ k, k < W.heap.size → v.ownBlock ≠ some k → w'.heap[k]? = W.heap[k]?) : RdP u ps w' ∧ TyB u T' w' := by
  have hne := ownO_ne ho hu hT
  have hty : TyB u T' w' := fun b hb => by
    obtain ⟨cs, fz, h⟩ := hu b hb
    exact ⟨cs, fz, (hk b (Array.getElem?_eq_some_iff.1 h).1 (hne b hb)).trans h⟩
  refine ⟨?_, hty⟩
  obtain ⟨a, c, rfl, h⟩ := hr
  refine ⟨a, c, rfl, ?_⟩
  rcases h with h | ⟨g, o, rfl, hc, hcell⟩
  · exact .inl h
  · obtain ⟨cs, fz, hh⟩ := hu g rfl
    have keep : ∀ k, w'.cell? ⟨g, k, none⟩ = W.cell? ⟨g, k, none⟩ := fun k => World.cell?_of_block (hk g (Array.getElem?_eq_some_iff.1 hh).1 (hne g rfl))
    refine .inr ⟨g, o, rfl, hc, fun i hi => ?_⟩
    obtain ⟨h1, h2, h3⟩ := hcell i hi
    exact ⟨(keep _).trans h1, (keep _).trans h2, (keep _).trans h3⟩
theorem LikeT.snoc {T T' B n c : Nat} {a : Option Addr} {ms : List Rw} {xs : List Rx} {x : Rx} {v7 : Value} {W w7 : World} (hl : LikeT T ms xs W) (ho : OwnO T' B v7 ms W) (hT : T ≠ T') (hp : RdP (.slice a n c) x.1.2.2 W) (ht : TyB (.slice a n c) T W) (hk : ∀ k, k < W.heap.size → v7.ownBlock ≠ some k → w7.heap[k]? = W.heap[k]?) : LikeT T (ms ++ [⟨str x.1.1, str x.1.2.1, a, n, c, x.2⟩]) (xs ++ [x]) w7 := by
  refine ⟨by rw [List.length_append, List.length_append, hl.1]; rfl, fun j hj => ?_⟩
  rw [List.length_append] at hj
  have hlen := hl.1
  rcases Nat.lt_or_ge j ms.length with h | h
  · have e1 : nthO (ms ++ [⟨str x.1.1, str x.1.2.1, a, n, c, x.2⟩]) j = nthO ms j := by
      unfold nthO
      rw [List.getD_eq_getElem?_getD, List.getD_eq_getElem?_getD, List.getElem?_append_left h]
    have e2 : (xs ++ [x]).getD j rx0 = xs.getD j rx0 := by
      rw [List.getD_eq_getElem?_getD, List.getD_eq_getElem?_getD, List.getElem?_append_left (by omega)]
    rw [e1, e2]
    obtain ⟨h1, h2, h3, h4, h5⟩ := hl.2 j h
    obtain ⟨k4, k5⟩ := keepRd ho h4 h5 hT hk
    exact ⟨h1, h2, h3, k4, k5⟩
  · obtain rfl : j = ms.length := by simp at hj; omega
    have e1 : nthO (ms ++ [⟨str x.1.1, str x.1.2.1, a, n, c, x.2⟩]) ms.length = ⟨str x.1.1, str x.1.2.1, a, n, c, x.2⟩ := by unfold nthO; simp [List.getD_eq_getElem?_getD]
    have e2 : (xs ++ [x]).getD ms.length rx0 = x := by rw [hlen]; simp [List.getD_eq_getElem?_getD]
    rw [e1, e2]
    obtain ⟨k4, k5⟩ := keepRd ho hp ht hT hk
    exact ⟨rfl, rfl, rfl, k4, k5⟩
theorem OwnO.mono {T B B' : Nat} {v : Value} {t : List Rw} {w : World} (h : OwnO T B v t w) (hB : B' ≤ B) : OwnO T B' v t w := by
  refine ⟨h.1, ?_⟩
  rcases h.2 with hn | ⟨g, cap, cur, rfl, hb, rest⟩
  · exact .inl hn
  · exact .inr ⟨g, cap, cur, rfl, by omega, rest⟩

set_option maxRecDepth 100000 in
set_option maxHeartbeats 4000000 in
theorem readAllR_any (s : ByteArray) (hs : s.size ≤ 1048576) (w : World) (hw : Env w) :
    Calls Tryz.prog 11 #[.string s, .func (.func 12) #[] #[]] w fun e w' => ∃ v, e = .returned (.tuple #[v, .int .i64 (rangesR s.data.toList).2]) ∧ (∃ ms, OwnO 48 w.heap.size v ms w' ∧ LikeT 95 ms (rangesR s.data.toList).1 w') ∧ Below w.heap.size w w' := by
  have HL := List_any s (by omega) w
  obtain ⟨l1, l2⟩ := listR_short s.data.toList
  rw [size_list] at l1 l2
  have HE : Hid (Env w) := hw
  clear hw
  have HW0 : Hid ((listR s.data.toList).2 ≠ 0 → rangesR s.data.toList = ([], (listR s.data.toList).2)) := (fun h => by unfold rangesR; rw [if_pos h] : _ → rangesR s.data.toList = _)
  have HW1 : Hid ((listR s.data.toList).2 = 0 → rangesR s.data.toList = rgs (listR s.data.toList).1) := (fun h => by unfold rangesR; rw [if_neg (by simp [h])] : _ → rangesR s.data.toList = _)
  generalize rangesR s.data.toList = WR at *
  generalize (listR s.data.toList).1 = t at *
  generalize (listR s.data.toList).2 = er at *
  have HSh : Hid (∀ x ∈ t, x.length ≤ s.size) := l2
  clear l2
  go_enter Tryz.func11, Tryz.ntmps11
  go_wp2_with fail
  refine HL.mono ?_
  rintro e w2 ⟨v, rfl, ho, hb2⟩
  have HB2 : Hid (Below w.heap.size w w2) := hb2
  have HO2 : Hid (OwnS w.heap.size v t w2) := ho
  have HE2 : Hid (Env w2) := HE.out.below hb2
  have hz2 := hb2.size
  clear hb2 ho HL
  by_cases her : er = 0
  · subst her
    have HW : Hid (WR = rgs t) := (by simpa using HW1.out : WR = rgs t)
    clear HW0 HW1
    have HR2 : Hid (RdS v t w2) := OwnS.rd HO2.out
    obtain ⟨va, vc, rfl⟩ := OwnS.form HO2.out
    go_wp2
    go_loopw [8, 23] (fun lv iv wr => ∃ (k : Nat) (ms : List Rw), k ≤ t.length ∧ iv = .int .i64 k ∧ Hid (∀ j, j < k → (rgR (t.getD j [])).2 = 0) ∧ Hid (OwnO 48 w2.heap.size lv ms wr) ∧ Hid (LikeT 95 ms ((t.take k).map (fun x => (rgR x).1)) wr) ∧ Hid (Below w2.heap.size w2 wr)) (fun _ iv _ => t.length - (intOf iv).toNat)
    case atStart => exact ⟨0, [], Nat.zero_le _, rfl, (fun j hj => by omega : ∀ j, j < 0 → _), ownO_nil _ _ _, LikeT.nil _ _, Below.refl _ _⟩
    case round =>
      obtain ⟨k, ms, hk, rfl, hall, hown, hlike, hbl⟩ := hrel
      by_cases hlt : k < t.length
      · have hsz := hbl.out.size
        obtain ⟨a', c', e', hcs⟩ := HR2.out.below hbl.out
        injection e' with e1 _ e2
        subst e1 e2
        rcases hcs with h | ⟨g, o, rfl, hlc, hcell⟩
        · rw [h] at hlt; simp at hlt
        have p0 := hcell k hlt
        clear hcell
        have hxl := getD_short HSh.out k hlt
        have HRW : Hid (∀ w, Env w → Calls Tryz.prog 12 #[.string (str (t.getD k []))] w fun e w' => ∃ a n c, e = .returned (.tuple #[.agg #[.string (str (rgR (t.getD k [])).1.1.1), .string (str (rgR (t.getD k [])).1.1.2.1), .slice a n c, .int .i64 (rgR (t.getD k [])).1.2], .int .i64 (rgR (t.getD k [])).2]) ∧ RdP (.slice a n c) (rgR (t.getD k [])).1.1.2.2 w' ∧ TyB (.slice a n c) 95 w' ∧ Below w.heap.size w w') := fun w h => by
          have := readRange_any (str (t.getD k [])) (by rw [str_size]; omega) w h
          rw [str_list] at this
          exact this
        have HErr : Hid ((rgR (t.getD k [])).2 ≠ 0 → WR = ([], (rgR (t.getD k [])).2)) := (fun h => by rw [HW.out]; exact rgs_err t k hlt hall.out h : _ → WR = _)
        have HNext : Hid ((rgR (t.getD k [])).2 = 0 → ∀ j, j < k + 1 → (rgR (t.getD j [])).2 = 0) := (fun h j hj => by
          by_cases hjk : j = k
          · subst hjk; exact h
          · exact hall.out j (by omega) : _ → ∀ j, _)
        have HTk : Hid ((t.take (k + 1)).map (fun x => (rgR x).1) = (t.take k).map (fun x => (rgR x).1) ++ [(rgR (t.getD k [])).1]) := take_rg t k hlt
        have hlk : Hid (ms.length + 1 ≤ 2147483648) := (by have := hlike.out.1; rw [List.length_map, List.length_take] at this; omega : ms.length + 1 ≤ 2147483648)
        generalize (t.take k).map (fun x => (rgR x).1) = acc at *
        generalize (rgR (t.getD k [])).2 = xe at *
        generalize (rgR (t.getD k [])).1 = x at *
        generalize str (t.getD k []) = X at *
        go_wp2_with fail
        refine (HRW.out _ (HE2.out.below hbl.out)).mono ?_
        rintro e w5 ⟨ra, rn, rc, rfl, hp5, ht5, hb5⟩
        have HB5 : Hid (Below w2.heap.size w2 w5) := bel_trans hbl.out hb5
        have HO5 : Hid (OwnO 48 w2.heap.size _ ms w5) := hown.out.below hb5
        have HK5 : Hid (LikeT 95 ms acc w5) := hlike.out.below hb5
        clear hb5
        obtain ⟨w6, hw6⟩ : ∃ w6, w6 = w5.alloc (.cells #[.string (str x.1.1), .string (str x.1.2.1), .slice ra rn rc, .int .i64 x.2] 48) := ⟨_, rfl⟩
        have hb6 : Below w5.heap.size w5 w6 := by rw [hw6]; exact (Below.refl _ w5).alloc (Nat.le_refl _) _
        have HB6 : Hid (Below w2.heap.size w2 w6) := bel_trans HB5.out hb6
        have HO6 : Hid (OwnO 48 w2.heap.size _ ms w6) := HO5.out.below hb6
        have HK6 : Hid (LikeT 95 ms acc w6) := HK5.out.below hb6
        have HP6 : Hid (RdP (.slice ra rn rc) x.1.2.2 w6) := hp5.below hb6
        have HT6 : Hid (TyB (.slice ra rn rc) 95 w6) := ht5.below hb6
        have hz6 := HB6.out.size
        clear hp5 ht5
        by_cases hx : xe = 0
        · subst hx
          have HN2 : Hid (∀ j, j < k + 1 → (rgR (t.getD j [])).2 = 0) := (by first | exact HNext.out rfl | exact HNext.out trivial : ∀ j, j < k + 1 → (rgR (t.getD j [])).2 = 0)
          subst hw6
          go_wp2_with (at_builtin; go_must (refine wp_appO 48 23 infoO Tryz.underlying23 rfl (.tmp 36) (.tmp 38) rfl w2.heap.size _ ms _ ⟨str x.1.1, str x.1.2.1, ra, rn, rc, x.2⟩ (by simp [Act.eval, Act.put]) HO6.out _ (by simp [Act.eval, Act.put]) rfl hlk.out hz6 ?_; intro v7 w7 hown7 hb7 hkeep))
          have HO7 : Hid (OwnO 48 w2.heap.size v7 (ms ++ [⟨str x.1.1, str x.1.2.1, ra, rn, rc, x.2⟩]) w7) := hown7
          have HK7 : Hid (LikeT 95 (ms ++ [⟨str x.1.1, str x.1.2.1, ra, rn, rc, x.2⟩]) ((t.take (k + 1)).map (fun x => (rgR x).1)) w7) := (by rw [HTk.out]; exact LikeT.snoc HK6.out HO6.out (by decide) HP6.out HT6.out hkeep : LikeT _ _ _ _)
          have HB7 : Hid (Below w2.heap.size w2 w7) := HB6.out.trans hb7
          clear hown7 hb7 hkeep
          go_wp2
          go_roundw
          case rel => exact ⟨k + 1, _, by omega, by go_num, HN2, HO7, HK7, HB7⟩
          case measure => simp [intOf]; omega
        · have dx : (xe != 0) = true := by simp [hx]
          have HWr : Hid (WR = ([], xe)) := HErr.out hx
          subst hw6
          go_wp2
          go_ret2
          rw [HWr.out]
          exact ⟨_, rfl, ⟨[], ownO_nil _ _ _, LikeT.nil _ _⟩, HB2.out.trans (HB6.out.mono hz2)⟩
      · obtain rfl : k = t.length := by omega
        have HWr : Hid (WR = (t.map (fun x => (rgR x).1), 0)) := (by rw [HW.out]; exact rgs_ok t hall.out : WR = _)
        rw [List.take_length] at hlike
        go_wp2
        go_ret2
        rw [HWr.out]
        refine ⟨_, rfl, ?_, HB2.out.trans (hbl.out.mono hz2)⟩
        exact ⟨ms, hown.out.mono hz2, hlike.out⟩
  · have dx : (er != 0) = true := by simp [her]
    have HWr : Hid (WR = ([], er)) := HW0.out her
    clear HW0 HW1
    go_wp2
    go_ret2
    rw [HWr.out]
    exact ⟨_, rfl, ⟨[], ownO_nil _ _ _, LikeT.nil _ _⟩, HB2.out⟩

set_option maxHeartbeats 1000000 in
theorem Ranges_any (s : ByteArray) (hs : s.size ≤ 1048576) (w : World) (hw : Env w) :
    Calls Tryz.prog 4 #[.string s] w fun e w' => ∃ v, e = .returned (.tuple #[v, .int .i64 (rangesR s.data.toList).2]) ∧ (∃ ms, OwnO 48 w.heap.size v ms w' ∧ LikeT 95 ms (rangesR s.data.toList).1 w') ∧ Below w.heap.size w w' := by
  have H := readAllR_any s hs w hw
  generalize rangesR s.data.toList = WR at *
  go_enter Tryz.func4, Tryz.ntmps4
  go_wp2_with fail
  refine H.mono ?_
  rintro e w2 ⟨v, rfl, ho, hb2⟩
  have HO : Hid (∃ ms, OwnO 48 w.heap.size v ms w2 ∧ LikeT 95 ms WR.1 w2) := ho
  clear ho
  go_wp2
  go_ret2
  exact ⟨_, rfl, HO.out, hb2⟩

end Ac
end Go.Proofs.YthfckgdaencagaaGreatDoor

/-
  The document's weight, with what stands ahead of the first q.
-/
set_option linter.unusedVariables false
set_option linter.unusedSimpArgs false
namespace Go.Proofs.YthfckgdaencagaaGreatDoor
open Go.RowKit Go.Shelf
namespace Ac
open Oc Tg

theorem rAt_none {ps : List Prm} (h : ∀ j, j < ps.length → isQr (nth ps j) = false) : rAt ps = ps.length := by
  unfold rAt
  have : ps.findIdx? isQr = none := by
    rw [List.findIdx?_eq_none_iff]
    intro x hx
    obtain ⟨j, hj, rfl⟩ := List.mem_iff_getElem.1 hx
    have := h j hj
    unfold nth at this
    rwa [List.getD_eq_getElem?_getD, List.getElem?_eq_getElem hj] at this
  rw [this]
theorem rAt_at {ps : List Prm} {k : Nat} (hk : k < ps.length) (h1 : isQr (nth ps k) = true) (h : ∀ j, j < k → isQr (nth ps j) = false) : rAt ps = k := by
  unfold rAt
  have g : ∀ j (hj : j < ps.length), nth ps j = ps[j] := fun j hj => by unfold nth; rw [List.getD_eq_getElem?_getD, List.getElem?_eq_getElem hj]; rfl
  have : ps.findIdx? isQr = some k := by
    rw [List.findIdx?_eq_some_iff_getElem]
    refine ⟨hk, by rw [← g k hk]; exact h1, fun j hj => ?_⟩
    rw [← g j (by omega), h j hj]
    decide
  rw [this]
theorem lowB_idem7 (c : UInt8) : lowB (lowB c) = lowB c := by
  have h : ∀ n : Nat, n < 256 → lowB (lowB (UInt8.ofNat n)) = lowB (UInt8.ofNat n) := by decide +kernel
  have := h c.toNat c.toNat_lt
  rwa [UInt8.ofNat_toNat] at this
theorem lower_idem7 (l : List UInt8) : lower (lower l) = lower l := by
  unfold lower; rw [List.map_map]; exact List.map_congr_left fun c _ => lowB_idem7 c
theorem lowP_idem (ps : List Prm) : (ps.map lowP).map lowP = ps.map lowP := by
  rw [List.map_map]
  apply List.map_congr_left
  intro p _
  show lowP (lowP p) = lowP p
  unfold lowP
  rw [lower_idem7]
theorem med_low (l : List UInt8) : (mdP (med l)).map lowP = mdP (med l) := by
  rw [med_eq]
  unfold partsR
  split
  · exact lowP_idem _
  · rfl
theorem med_bare (l : List UInt8) : Bare (mdP (med l)) := by
  rw [med_eq]
  unfold partsR
  split
  · intro p hp h
    obtain ⟨q, hq, rfl⟩ := List.mem_map.1 hp
    exact params_bare _ q hq h
  · intro p hp
    cases hp
theorem rAt_low {ps : List Prm} (h : ps.map lowP = ps) : rAt ps = qAt ps := by
  unfold rAt qAt
  have e : ps.findIdx? isQ = ps.findIdx? isQr := by
    have : (ps.map lowP).findIdx? isQ = ps.findIdx? isQr := by rw [List.findIdx?_map]; rfl
    rw [h] at this
    exact this
  rw [e]
  cases List.findIdx? isQr ps <;> rfl

set_option maxRecDepth 100000 in
set_option maxHeartbeats 4000000 in
theorem rweight2_any (v : Value) (ps : List Prm) (hM : EachP 1048576 ps) (hB : Bare ps) (hl : ps.length ≤ 16777216) (w : World) (hrd : RdP v ps w) :
    Calls Tryz.prog 15 #[v] w fun e w' => ∃ u, e = .returned (.tuple #[u, .int .i64 (wq (ps.map lowP)).1, .int .i64 (wq (ps.map lowP)).2]) ∧ OwnP 84 w.heap.size u (ps.take (rAt ps)) w' ∧ Below w.heap.size w w' := by
  have HR : Hid (RdP v ps w) := hrd
  have HM : Hid (EachP 1048576 ps) := hM
  have HBa : Hid (Bare ps) := hB
  obtain ⟨a, c, rfl, _⟩ := hrd
  clear hM hB
  go_enter Tryz.func15, Tryz.ntmps15
  go_wp2
  go_loopw [5, 6] (fun ov iv wr => ∃ k : Nat, k ≤ ps.length ∧ iv = .int .i64 k ∧ Hid (∀ j, j < k → isQr (nth ps j) = false) ∧ Hid (OwnP 84 w.heap.size ov (ps.take k) wr) ∧ Hid (Below w.heap.size w wr)) (fun _ iv _ => ps.length - (intOf iv).toNat)
  case atStart => exact ⟨0, Nat.zero_le _, rfl, (fun j hj => by omega : ∀ j, j < 0 → _), ownP_empty _ w (Nat.le_refl _), (Below.refl _ w).alloc (Nat.le_refl _) _⟩
  case round =>
    obtain ⟨k, hk, rfl, hall, hown, hbl⟩ := hrel
    have hsz := hbl.out.size
    by_cases hlt : k < ps.length
    · obtain ⟨a', c', e', hcs⟩ := HR.out.below hbl.out
      injection e' with e1 _ e2
      subst e1 e2
      rcases hcs with h | ⟨g, o, rfl, hlc, hcell⟩
      · rw [h] at hlt; simp at hlt
      obtain ⟨p0, p1, p2⟩ := hcell k hlt
      have hgw : g < wr.heap.size := World.block_lt_of_cell? wr _ p0
      clear hcell
      have hx := HM.out.at k hlt
      have HLw : Hid (∀ w, Calls Tryz.prog 33 #[.string (str (nth ps k).1)] w fun e w' => e = .returned (.string (str (lower (nth ps k).1))) ∧ Below w.heap.size w w') := fun w => by
        have := rLower_any (str (nth ps k).1) (by rw [str_size]; unfold maxLen; omega) w
        unfold lowS at this
        rw [str_list] at this
        exact this
      have HQl : Hid (∀ w, Calls Tryz.prog 34 #[.string (str (nth ps k).2.1)] w fun e w' => e = .returned (.tuple #[.int .i64 (qual (nth ps k).2.1).1, .int .i64 (qual (nth ps k).2.1).2]) ∧ w' = w) := fun w => by
        have := rQuality_any (str (nth ps k).2.1) (by rw [str_size]; unfold maxLen; omega) w
        rw [str_list] at this
        exact this
      have HEq : Hid (((str (lower (nth ps k).1)).toList == [113]) = isQr (nth ps k)) := by
        show _ = _
        have h := veq (lower (nth ps k).1) [113]
        have e : (str [113]).toList = [113] := by rw [Lib.toList_data]; rfl
        rw [e] at h
        exact h
      have HHit : Hid (isQr (nth ps k) = true → wq (ps.map lowP) = qual (nth ps k).2.1) := (fun h => rwq_at hlt h hall.out : _ → wq _ = _)
      have HRA : Hid (isQr (nth ps k) = true → rAt ps = k) := (fun h => rAt_at hlt h hall.out : _ → rAt _ = _)
      have HNo : Hid (isQr (nth ps k) = true → (nth ps k).2.2 = false → qual (nth ps k).2.1 = (0, 71)) := (fun _ h => by
        have hm : nth ps k ∈ ps := by
          unfold nth
          rw [List.getD_eq_getElem?_getD, List.getElem?_eq_getElem hlt]
          exact List.getElem_mem hlt
        rw [HBa.out _ hm h]
        exact qual_nil : _ → _ → qual _ = _)
      have HNext : Hid (isQr (nth ps k) = false → ∀ j, j < k + 1 → isQr (nth ps j) = false) := (fun h j hj => by
        by_cases hjk : j = k
        · subst hjk; exact h
        · exact hall.out j (by omega) : _ → ∀ j, _)
      have HTk : Hid (ps.take (k + 1) = ps.take k ++ [nth ps k]) := take_nthP ps k hlt
      have hlk : (ps.take k).length + 1 ≤ 2147483648 := by rw [List.length_take]; omega
      generalize qual (nth ps k).2.1 = QL at *
      obtain ⟨q1, q2⟩ := QL
      dsimp only at HQl
      generalize isQr (nth ps k) = isq at *
      generalize nth ps k = p at *
      obtain ⟨pn, pv, pb⟩ := p
      dsimp only at p0 p1 p2 HLw HQl HEq HNo
      generalize str (lower pn) = LN at *
      generalize hn : str pn = n at p0 HLw
      generalize hv : str pv = vv at p1 HQl
      have HNe : Hid (n = str pn) := hn.symm
      have HVe : Hid (vv = str pv) := hv.symm
      clear hn hv hx
      go_wp2_with fail
      refine (HLw.out _).mono ?_
      rintro e w5 ⟨rfl, hb5⟩
      have d0 := (hb5.cell (p := ⟨g, o + k * 3, none⟩) hgw).trans p0
      have d1 := (hb5.cell (p := ⟨g, o + k * 3 + 1, none⟩) hgw).trans p1
      have d2 := (hb5.cell (p := ⟨g, o + k * 3 + 2, none⟩) hgw).trans p2
      have HB5 : Hid (Below w.heap.size w w5) := bel_trans hbl.out hb5
      have HO5 : Hid (OwnP 84 w.heap.size _ (ps.take k) w5) := hown.out.below hb5
      have hz5 := HB5.out.size
      clear hb5 p0 p1 p2
      cases isq with
      | true =>
        have hq := HEq.out
        have HH : Hid (wq (ps.map lowP) = (q1, q2)) := (by first | exact HHit.out rfl | exact HHit.out trivial : wq (ps.map lowP) = (q1, q2))
        have HK : Hid (rAt ps = k) := (by first | exact HRA.out rfl | exact HRA.out trivial : rAt ps = k)
        cases pb with
        | false =>
          have HH2 : Hid ((q1, q2) = ((0 : Int), (71 : Int))) := (by first | exact HNo.out rfl rfl | exact HNo.out trivial trivial | exact HNo.out trivial rfl : (q1, q2) = ((0 : Int), (71 : Int)))
          go_wp2
          go_ret3
          rw [HH.out, HH2.out, HK.out]
          exact ⟨_, rfl, HO5.out, HB5.out⟩
        | true =>
          go_wp2_with fail
          refine (HQl.out _).mono ?_
          rintro e w6 ⟨rfl, hw6⟩
          rw [hw6]
          clear hw6
          go_wp2
          go_ret3
          rw [HH.out, HK.out]
          exact ⟨_, rfl, HO5.out, HB5.out⟩
      | false =>
        have hq := HEq.out
        have HN2 : Hid (∀ j, j < k + 1 → isQr (nth ps j) = false) := (by first | exact HNext.out rfl | exact HNext.out trivial : ∀ j, j < k + 1 → isQr (nth ps j) = false)
        go_wp2_with (at_builtin; go_must (refine wp_appP 84 38 infoQ2 Tryz.underlying38 rfl (.tmp 42) (.tmp 47) rfl w.heap.size _ (ps.take k) _ (pn, pv, pb) _ _ HNe.out HVe.out _ rfl (by simp [Act.eval, Act.put]) HO5.out _ (by simp [Act.eval, Act.put]) rfl hlk hz5 ?_; intro v7 w7 hown7 hb7))
        have HO7 : Hid (OwnP 84 w.heap.size v7 (ps.take (k + 1)) w7) := (by rw [HTk.out]; exact hown7 : OwnP _ _ _ _ _)
        have HB7 : Hid (Below w.heap.size w w7) := HB5.out.trans hb7
        clear hown7 hb7
        go_wp2
        go_roundw
        case rel => exact ⟨k + 1, by omega, by go_num, HN2, HO7, HB7⟩
        case measure => simp [intOf]; omega
    · have HE : Hid (wq (ps.map lowP) = (1000, 0)) := rwq_none (fun j hj => hall.out j (by omega))
      have HK : Hid (rAt ps = k) := (by rw [rAt_none (fun j hj => hall.out j (by omega))]; omega : rAt ps = k)
      go_wp2
      go_ret3
      rw [HE.out, HK.out]
      exact ⟨_, rfl, hown.out, hbl.out⟩


end Ac
end Go.Proofs.YthfckgdaencagaaGreatDoor
