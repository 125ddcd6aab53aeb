/-
  target: withoutDots.
-/
import Derived.Test.YtodgpcohdaejkabGreatDoorGSg
set_option linter.unusedVariables false
set_option linter.unusedSimpArgs false
namespace Go.Proofs.YtodgpcohdaejkabGreatDoor
open Go.RowKit Go.Shelf
attribute [local go_sem] Oper.semAt_some
namespace Tg
open Oc

/-- A row cut by its last. -/
theorem own_drop {w : World} {B : Nat} {a : Option Addr} {n c : Nat} {xs : List Value} (h : w.ownsRow B 9 1 (.slice a n c) n xs) : w.ownsRow B 9 1 (.slice a (n - 1) c) (n - 1) xs.dropLast := by
  obtain ⟨h1, h2⟩ := h
  refine ⟨by rw [List.length_dropLast, h1]; omega, ?_⟩
  rcases h2 with ⟨e, h0⟩ | ⟨g, cap, cur, e, hg, hh, hn, hm, hz, ht⟩
  · left
    subst h0
    exact ⟨e, rfl⟩
  · right
    injection e with e1 e2 e3
    subst e1 e3
    refine ⟨g, c, cur, rfl, hg, hh, by omega, hm, hz, ?_⟩
    rw [Nat.mul_one] at ht ⊢
    rw [← ht, List.dropLast_eq_take, List.take_take, List.length_take]
    congr 1
    have : n ≤ cur.toList.length := by rw [Array.length_toList]; omega
    omega
theorem keep_app (k : List (List UInt8)) (z : List UInt8) : keep (k ++ [z]) = stp (keep k) z := by unfold keep; rw [List.foldl_append]; rfl
theorem fold_len (k : List (List UInt8)) : ∀ a, (k.foldl stp a).1.length ≤ a.1.length + k.length := by
  induction k with
  | nil => intro a; exact Nat.le_refl _
  | cons z r ih =>
    intro a
    rw [List.foldl_cons, List.length_cons]
    have h := ih (stp a z)
    have : (stp a z).1.length ≤ a.1.length + 1 := by
      unfold stp
      split
      · exact Nat.le_succ _
      · split
        · dsimp only; rw [List.length_dropLast]; omega
        · simp
    omega
theorem keep_len (k : List (List UInt8)) : (keep k).1.length ≤ k.length := by
  have := fold_len k ([], false)
  simpa [keep] using this
theorem join_flat (k : List (List UInt8)) (h : k ≠ []) : 47 :: Lib.join k [47] = joinS k := by
  cases k with
  | nil => exact absurd rfl h
  | cons x r => rw [Lib.join_cons]; simp [Lib.joinTail, joinS, List.flatMap]
theorem joinS_len (k : List (List UInt8)) (M : Nat) (h : ∀ z ∈ k, z.length ≤ M) : (joinS k).length ≤ k.length * (M + 1) := by
  induction k with
  | nil => simp [joinS]
  | cons x r ih =>
    have e : joinS (x :: r) = 47 :: (x ++ joinS r) := by simp [joinS]
    rw [e, List.length_cons, List.length_append, List.length_cons, Nat.add_mul]
    have := h x (by simp)
    have := ih fun z hz => h z (by simp [hz])
    omega
theorem strs_map (k : List (List UInt8)) : (k.map str).map (fun x => x.data.toList) = k := by
  rw [List.map_map]
  conv => rhs; rw [← List.map_id k]
  refine List.map_congr_left fun z _ => ?_
  show (str z).data.toList = id z
  rw [str_list]; rfl

theorem cat47 (l : List UInt8) : (⟨#[47]⟩ : ByteArray) ++ str l = str (47 :: l) := by
  apply eq_list
  rw [str_list]
  show ((⟨#[47]⟩ : ByteArray) ++ str l).data.toList = _
  rw [ByteArray.data_append, Array.toList_append]
  simp [str]

/-- Join of a row of one's own. -/
theorem Join_own (B : Nat) (v : Value) (k : List (List UInt8)) (hk : k ≠ []) (w : World) (h : OwnS B v k w) (hN : k.length ≤ 4194305) (hM : ∀ z ∈ k, z.length ≤ 4194304) :
    Calls Tryz.prog 43 #[v, .string ⟨#[47]⟩] w fun e w' => e = .returned (.string (str (Lib.join k [47]))) ∧ Below w.heap.size w w' := by
  obtain ⟨a, c, rfl⟩ := h.form
  have hc0 := h.cell 0 (by cases k with | nil => exact absurd rfl hk | cons => simp)
  obtain ⟨g, rfl, hcap, hc0⟩ := hc0
  have hl : (Lib.join k [47]).length ≤ 140737488355328 := by
    have h1 := joinS_len k 4194304 hM
    rw [← join_flat k hk, List.length_cons] at h1
    have : k.length * (4194304 + 1) ≤ 4194305 * (4194304 + 1) := Nat.mul_le_mul_right _ hN
    omega
  have := Tryz.strings_Join g 0 c (k.map str) ⟨#[47]⟩ w (fun j x hx => by
      rw [List.getElem?_map] at hx
      cases hk2 : k[j]? with
      | none => rw [hk2] at hx; cases hx
      | some z =>
        rw [hk2] at hx
        cases hx
        have hj : j < k.length := (List.getElem?_eq_some_iff.1 hk2).1
        obtain ⟨g', e, _, hcell⟩ := h.cell j hj
        injection e with e
        injection e with e
        subst e
        rw [Nat.zero_add, hcell, List.getD_eq_getElem?_getD, hk2]
        rfl) (cell_lt hc0) (by rw [List.length_map]; omega) (by rw [List.length_map]; exact hcap) (by rw [strs_map]; exact hl)
  rw [List.length_map, strs_map] at this
  exact this

set_option maxRecDepth 100000 in
set_option maxHeartbeats 8000000 in
theorem withoutDots_any (s : ByteArray) (hs : s.size ≤ 4194304) (h1 : 1 ≤ s.size) (w : World) (hm : ML w) :
    Calls Tryz.prog 22 #[.string s] w fun e w' => e = .returned (.string (str (undot s.data.toList))) ∧ Below w.heap.size w w' := by
  obtain ⟨i1, hj, hy0, hy1, hy2⟩ := info_parts infoStr
  have hex : (s.extract 1 s.size).data.toList = s.data.toList.drop 1 := by rw [ext_list, List.take_of_length_le (by rw [List.length_drop, size_list]; omega)]
  have hes : (s.extract 1 s.size).size + 1 ≤ 4194304 := by rw [← size_list, hex, List.length_drop, size_list]; omega
  have hseg : segs s.data.toList = splitB 47 (s.extract 1 s.size).data.toList := by rw [hex]; rfl
  unfold undot
  rw [hseg]
  have HS : Hid (∀ w, _) := fun w => segmentsOf_any s h1 w
  clear hex hseg
  generalize s.extract 1 s.size = S at *
  obtain ⟨w4, hw4⟩ : ∃ w4, w4 = (((w.alloc (.cells #[.slice none 0 0] 27)).alloc (.cells #[.bool false] 4)).alloc (.cells #[.string S] 9)).alloc (.cells #[.string ⟨#[47]⟩] 9) := ⟨_, rfl⟩
  have hsz4 : w4.heap.size = w.heap.size + 4 := by rw [hw4]; simp
  have b0 : Boxed w4 w.heap.size 27 (.slice none 0 0) := by rw [hw4]; exact (((Boxed.new w _ _).alloc _).alloc _).alloc _
  have b1 : Boxed w4 (w.heap.size + 1) 4 (.bool false) := by rw [hw4]; have := ((Boxed.new (w.alloc (.cells #[.slice none 0 0] 27)) 4 (.bool false)).alloc (.cells #[.string S] 9)).alloc (.cells #[.string ⟨#[47]⟩] 9); rwa [World.size_alloc] at this
  have b2 : w4.cell? ⟨w.heap.size + 2, 0, none⟩ = some (.string S) := by rw [hw4]; have := ((Boxed.new ((w.alloc (.cells #[.slice none 0 0] 27)).alloc (.cells #[.bool false] 4)) 9 (.string S)).alloc (.cells #[.string ⟨#[47]⟩] 9)).cell; rwa [World.size_alloc, World.size_alloc] at this
  have b3 : w4.cell? ⟨w.heap.size + 3, 0, none⟩ = some (.string ⟨#[47]⟩) := by rw [hw4]; have := (Boxed.new (((w.alloc (.cells #[.slice none 0 0] 27)).alloc (.cells #[.bool false] 4)).alloc (.cells #[.string S] 9)) 9 (.string ⟨#[47]⟩)).cell; rwa [World.size_alloc, World.size_alloc, World.size_alloc] at this
  have hB4 : Below w.heap.size w w4 := by
    rw [hw4]
    exact ((((Below.refl _ w).alloc (Nat.le_refl _) _).alloc (by simp) _).alloc (by simp; omega) _).alloc (by simp; omega) _
  have hM4 : ML w4 := hm.below hB4
  have HW4 : Hid (_ = _) := hw4
  have hG := hm.lt
  clear hw4
  refine (callsIn_wide (n := 9)).1 ?_
  refine callsIn_of_wp_marks Tryz.func22 rfl trivial ?_ rfl
  simp only [Tryz.ntmps22, List.size_toArray, List.length_cons, List.length_nil, Nat.reduceAdd, Nat.reduceSub, Array.replicate_succ, Array.replicate_zero, List.push_toArray, List.append_toArray, List.nil_append, List.cons_append]
  have hq : ∀ (k : Nat) (cs : Array Value) (W : World), (binOp .eql 50 (.func (.func k) #[] cs) .nilFunc).run Tryz.prog W = .ok (.bool false) W := fun k cs W => by kernel_rfl
  gi_wp2_with (refine ⟨trivial, ?_⟩; gi_at_call 27; refine (callsIn_wide.2 (HS.out _)).mono ?_; rintro e w3 ⟨rfl, e3⟩; have e4 := e3.trans HW4.out.symm; subst e4; clear e3)
  simp only [Nat.add_assoc, Nat.reduceAdd]
  clear HW4 HS
  generalize hN : w.heap.size = n1 at *
  refine wpIn_rangeFunc_ownG rfl (by omega) (gf := 62) (lb := #[.pointer (some ⟨n1 + 2, 0, none⟩), .pointer (some ⟨n1 + 3, 0, none⟩)]) rfl trivial (enters_of Tryz.func62 (by kernel_rfl) rfl)
    (pieces_stops 8 (n1 + 2) (n1 + 3) 47 S (by omega) _ hM4 b2 b3) keep3_t (keep3_b (by omega) (by omega) (by omega)) (Below.refl _ _) (fun _ => rfl)
    (fun (pre : List (Pz S.size)) W => ((∃ v, Boxed W n1 27 v ∧ W.ownsRow (n1 + 4) 9 1 v (keep (pre.map Pz.z)).1.length ((keep (pre.map Pz.z)).1.map fun z => Value.string (str z)) ∧ True) ∧ Boxed W (n1 + 1) 4 (.bool (keep (pre.map Pz.z)).2)) ∧ (Below n1 w W ∧ n1 + 4 ≤ W.heap.size))
    (fun _ _ _ => False)
    (OwnFrom.and (OwnFrom.and (Own.from (holdsRow_own (n1 + 4) n1 27 9 1 (fun pre : List (Pz S.size) => (keep (pre.map Pz.z)).1.length) (fun pre => (keep (pre.map Pz.z)).1.map fun z => Value.string (str z)) (fun _ _ => True)) _) (Own.from (boxed_own _ _ (fun pre : List (Pz S.size) => .bool (keep (pre.map Pz.z)).2)) _)) (OwnFrom.and (ownFrom_below (by omega) (by omega)) (fun _ _ _ _ h hg _ => Nat.le_trans h hg.size)))
    (fun _ _ _ _ _ hs _ _ => hs)
    ⟨⟨⟨_, b0, World.ownsRow_nil _ _ _ _, trivial⟩, b1⟩, hB4, by omega⟩
    (fun x : Pz S.size => { tmps := #[.string s, undef, .string ⟨#[]⟩, .pointer (some ⟨n1, 0, none⟩), .pointer (some ⟨n1 + 1, 0, none⟩), .string (str x.z), .string s, .func (.func 62) #[] #[.pointer (some ⟨n1 + 2, 0, none⟩), .pointer (some ⟨n1 + 3, 0, none⟩)], .string (str x.z), undef, undef, undef, undef, undef, undef, undef, undef, undef, undef, undef, undef, undef, undef, undef, undef, undef, undef, undef, undef, undef, undef, undef, undef, undef, undef, undef, undef, undef], defers := [] }) ?assign ?body ?done ?stop
  case assign =>
    intro l x W K hK
    unfold encP
    gi_wp2
    exact hK
  case body =>
    rintro l pre x W ⟨⟨⟨v, hv, hrow, _⟩, hd⟩, hB, hS⟩ hlt
    have hxl := x.le
    have hkl := keep_len (pre.map Pz.z)
    rw [List.length_map] at hkl
    have hka : keep ((pre ++ [x]).map Pz.z) = stp (keep (pre.map Pz.z)) x.z := by rw [List.map_append]; exact keep_app _ _
    have hlv : ∃ a c, v = .slice a (keep (pre.map Pz.z)).1.length c := by
      rcases hrow.2 with ⟨rfl, e⟩ | ⟨g, c, _, rfl, _⟩
      · exact ⟨none, 0, by rw [e]⟩
      · exact ⟨_, c, rfl⟩
    obtain ⟨av, cv, rfl⟩ := hlv
    have hA : ((str x.z).toList == [46]) = decide (x.z = [46]) := by rw [ByteArray.toList_eq, str_list, Bool.eq_iff_iff]; simp
    have hA2 : ((str x.z).toList == [46, 46]) = decide (x.z = [46, 46]) := by rw [ByteArray.toList_eq, str_list, Bool.eq_iff_iff]; simp
    have hdc := hd.cell
    have hdf := hd.frozen
    have hvc := hv.cell
    have hvf := hv.frozen
    have hG1 : 0 < n1 := hG
    by_cases hz1 : x.z = [46]
    · have hst : stp (keep (pre.map Pz.z)) x.z = ((keep (pre.map Pz.z)).1, true) := by unfold stp; rw [if_pos hz1]
      rw [hst] at hka
      have hz2 : ¬ x.z = [46, 46] := by rw [hz1]; decide
      rw [decide_eq_true hz1] at hA
      rw [decide_eq_false hz2] at hA2
      have HKA : Hid (_ = _) := hka
      clear hst hz1 hz2 hka
      generalize keep (pre.map Pz.z) = K at *
      generalize str x.z = X at *
      gi_wp2
      have hko : KeepsOthers W (W.setCell ⟨n1 + 1, 0, none⟩ (.bool true)) := KeepsOthers.setCell W _ _
      have hfr : Fr (n1 + 4) (n1 + 1) W (W.setCell ⟨n1 + 1, 0, none⟩ (.bool true)) := Fr.set W _
      refine ⟨hko.from _, ⟨hfr.keep (by omega) (by omega), hfr.keep (by omega) (by omega), hfr.keep (by omega) (by omega)⟩, ?_, hB.trans (hfr.below (by omega) (by omega)), Nat.le_trans hS hko.size⟩
      rw [HKA.out]
      exact ⟨⟨_, hv.other (by omega) _, hrow.kept (grownBy_setCell' W (n1 + 1) _) (.inr (hd.not_row (by decide) hrow).symm), trivial⟩, hd.set _⟩
    · by_cases hz2 : x.z = [46, 46]
      · have hst : stp (keep (pre.map Pz.z)) x.z = ((keep (pre.map Pz.z)).1.dropLast, true) := by unfold stp; rw [if_neg hz1, if_pos hz2]
        rw [hst] at hka
        rw [decide_eq_false hz1] at hA
        rw [decide_eq_true hz2] at hA2
        have HKA : Hid (_ = _) := hka
        clear hst hz1 hz2 hka
        generalize keep (pre.map Pz.z) = K at *
        generalize str x.z = X at *
        have hcap : K.1.length ≤ cv := by
          rcases hrow.2 with ⟨e, h0⟩ | ⟨g, c, _, e, _, _, hn, _⟩
          · omega
          · injection e with e1 e2 e3; omega
        have hmx : max ((K.1.length : Int) - 1) 0 = ((K.1.length - 1 : Nat) : Int) := by omega
        have hcp1 : ((K.1.length - 1 : Nat) : Int) ≤ (cv : Int) := by omega
        have hcp2 : 0 ≤ ((K.1.length - 1 : Nat) : Int) := by omega
        have hdr := own_drop hrow
        have hav : (if cv = 0 then av else Option.map (fun x => x.add 0) av) = av := by
          rcases hrow.2 with ⟨e, h0⟩ | ⟨g, c, _, e, _⟩
          · injection e with e1; subst e1; simp
          · injection e with e1; subst e1; simp [Addr.add]
        gi_wp2
        have hko := (KeepsOthers.setCell W ⟨n1 + 1, 0, none⟩ (.bool true)).trans (KeepsOthers.setCell _ ⟨n1, 0, none⟩ (.slice av (K.1.length - 1) cv))
        have f1 : Fr (n1 + 4) (n1 + 1) W (W.setCell ⟨n1 + 1, 0, none⟩ (.bool true)) := Fr.set W _
        have f2 : Fr (n1 + 4) n1 (W.setCell ⟨n1 + 1, 0, none⟩ (.bool true)) ((W.setCell ⟨n1 + 1, 0, none⟩ (.bool true)).setCell ⟨n1, 0, none⟩ (.slice av (K.1.length - 1) cv)) := Fr.set _ _
        have r1 := hdr.kept (grownBy_setCell' W (n1 + 1) (.bool true)) (.inr (hd.not_row (by decide) hdr).symm)
        have v1 := hv.other (show n1 ≠ n1 + 1 by omega) (.bool true)
        have r2 := r1.kept (grownBy_setCell' _ n1 (.slice av (K.1.length - 1) cv)) (.inr (v1.not_row (by decide) r1).symm)
        refine ⟨hko.from _, ⟨(f1.keep (by omega) (by omega)).trans (f2.keep (by omega) (by omega)), (f1.keep (by omega) (by omega)).trans (f2.keep (by omega) (by omega)), (f1.keep (by omega) (by omega)).trans (f2.keep (by omega) (by omega))⟩, ?_, hB.trans ((f1.below (by omega) (by omega)).trans (f2.below (by omega) (by omega))), Nat.le_trans hS hko.size⟩
        rw [HKA.out]
        refine ⟨⟨_, v1.set _, ?_, trivial⟩, (hd.set _).other (by omega) _⟩
        rw [List.length_dropLast]
        dsimp only
        rw [List.map_dropLast]
        exact r2
      · have hst : stp (keep (pre.map Pz.z)) x.z = ((keep (pre.map Pz.z)).1 ++ [x.z], false) := by unfold stp; rw [if_neg hz1, if_neg hz2]
        rw [hst] at hka
        rw [decide_eq_false hz1] at hA
        rw [decide_eq_false hz2] at hA2
        have HKA : Hid (_ = _) := hka
        clear hst hz1 hz2 hka
        generalize keep (pre.map Pz.z) = K at *
        generalize hX : str x.z = X at *
        have hfr : Fr (n1 + 4) (n1 + 1) W (W.setCell ⟨n1 + 1, 0, none⟩ (.bool false)) := Fr.set W _
        have hko : KeepsOthers W (W.setCell ⟨n1 + 1, 0, none⟩ (.bool false)) := KeepsOthers.setCell W _ _
        have hv1 := hv.other (show n1 ≠ n1 + 1 by omega) (.bool false)
        have hd1 := hd.set (.bool false)
        have hr1 := hrow.kept (grownBy_setCell' W (n1 + 1) (.bool false)) (.inr (hd.not_row (by decide) hrow).symm)
        have hs1 := hfr.size
        have hc := hv1.cell
        have hdc1 := hd1.cell
        generalize hWg : W.setCell ⟨n1 + 1, 0, none⟩ (.bool false) = W1 at *
        gi_wp2_with (gi_at_builtin; refine wpListIn_append_own _ rfl _ _ 27 rfl (n1 + 4) 9 i1 (.string ⟨#[]⟩) 1 16 Tryz.underlying27 hj hy0 hy1 hy2 rfl (by decide) _ _ _ rfl (hr1.alloc _) ⟨W1.heap.size, 0, none⟩ 1 1 [.string X] rfl rfl (cell_one_new _ _ _) (by simp [Value.oneCell']) (by unfold maxLen; omega) (by omega) (by simp; omega) ?_; intro v' w5 hown' hgrow _; obtain ⟨g', cap', rfl⟩ := ownsRow_succ hown'; obtain ⟨hv2, hv3, hr3, hk3, hb3, hbx, hrx, hkp⟩ := coll (n₀ := n1) hv1 (by decide) hr1 (by omega) (by omega) (Nat.le_refl _) hown' hgrow; have hc2 := hv2.cell; have hf2 := hv2.frozen)
        have hd3 := (hbx (n1 + 1) _ _ (by omega) (by decide) hd1).2
        refine ⟨(hko.trans hk3).from _, ⟨(hfr.keep (by omega) (by omega)).trans (hkp _ (by omega) (by omega)), (hfr.keep (by omega) (by omega)).trans (hkp _ (by omega) (by omega)), (hfr.keep (by omega) (by omega)).trans (hkp _ (by omega) (by omega))⟩, ?_, hB.trans ((hfr.below (by omega) (by omega)).trans hb3), Nat.le_trans hS (Nat.le_trans hs1 hk3.size)⟩
        rw [HKA.out]
        refine ⟨⟨_, hv3, ?_, trivial⟩, hd3⟩
        rw [List.length_append, List.map_append]
        subst hX
        exact hr3
  case done =>
    rintro D ys W hD hys ⟨⟨⟨v, hv, hrow, _⟩, hd⟩, hB, hS⟩ hK
    rw [hys] at hrow hd
    have hkl := keep_len (splitB 47 S.data.toList)
    have hsl := split_len 47 S.data.toList
    rw [size_list] at hsl
    have hne : splitB 47 S.data.toList ≠ [] := splitB_ne _ _
    have hdn := dots_ne _ hne
    have hzl : ∀ z ∈ dots (splitB 47 S.data.toList), z.length ≤ 4194304 := by
      intro z hz
      rcases (dots_plain _ z hz).2 with h | h
      · rw [← hys] at h
        obtain ⟨x, _, rfl⟩ := List.mem_map.1 h
        have := x.le
        omega
      · subst h; simp
    have hjl : (joinS (dots (splitB 47 S.data.toList))).length ≤ 140737488355328 := by
      have h1 := joinS_len _ 4194304 hzl
      have h2 : (dots (splitB 47 S.data.toList)).length ≤ 4194305 := by
        unfold dots fin
        split
        · simp; omega
        · omega
      have : (dots (splitB 47 S.data.toList)).length * (4194304 + 1) ≤ 4194305 * (4194304 + 1) := Nat.mul_le_mul_right _ h2
      omega
    have hjf := join_flat _ hdn
    have hdl : (dots (splitB 47 S.data.toList)).length ≤ 4194305 := by
      unfold dots fin
      split
      · simp; omega
      · omega
    have hJ : ∀ (B : Nat) (v : Value) (W : World), OwnS B v (dots (splitB 47 S.data.toList)) W → Calls Tryz.prog 43 #[v, .string ⟨#[47]⟩] W fun e w' => e = .returned (.string (str (Lib.join (dots (splitB 47 S.data.toList)) [47]))) ∧ Below W.heap.size W w' := fun B v W h => Join_own B v _ hdn W h hdl hzl
    have HJ : Hid (_) := hJ
    have hjs : (str (Lib.join (dots (splitB 47 S.data.toList)) [47])).size + 1 ≤ 140737488355328 := by
      rw [← hjf, List.length_cons] at hjl
      rw [str_size]
      exact hjl
    have hfin : (⟨#[47]⟩ : ByteArray) ++ str (Lib.join (dots (splitB 47 S.data.toList)) [47]) = str (joinS (dots (splitB 47 S.data.toList))) := by rw [← hjf]; exact cat47 _
    have HFIN : Hid (_ = _) := hfin
    have hdots : dots (splitB 47 S.data.toList) = if (keep (splitB 47 S.data.toList)).2 then (keep (splitB 47 S.data.toList)).1 ++ [[]] else (keep (splitB 47 S.data.toList)).1 := rfl
    clear hJ hfin hjf hjl hdl hzl hdn
    generalize str (Lib.join (dots (splitB 47 S.data.toList)) [47]) = JJ at *
    generalize keep (splitB 47 S.data.toList) = K at *
    have hlv : ∃ a c, v = .slice a K.1.length c := by
      rcases hrow.2 with ⟨rfl, e⟩ | ⟨g, c, _, rfl, _⟩
      · exact ⟨none, 0, by rw [e]⟩
      · exact ⟨_, c, rfl⟩
    obtain ⟨av, cv, rfl⟩ := hlv
    have hdc := hd.cell
    have hvc := hv.cell
    have hvf := hv.frozen
    obtain ⟨K1, K2⟩ := K
    dsimp only at *
    cases K2 with
    | false =>
      have hdd : dots (splitB 47 S.data.toList) = K1 := by rw [hdots]; rfl
      have HO : Hid (OwnS (n1 + 4) (.slice av K1.length cv) K1 W) := hrow
      have HJ2 : Hid (∀ (B : Nat) (v : Value) (W : World), OwnS B v K1 W → Calls Tryz.prog 43 #[v, .string ⟨#[47]⟩] W fun e w' => e = .returned (.string JJ) ∧ Below W.heap.size W w') := by rw [← hdd]; exact HJ.out
      clear hdots HJ hdd
      gi_wp2_with (refine ⟨trivial, ?_⟩; gi_at_call 43; refine (callsIn_wide.2 (HJ2.out _ _ _ HO.out)).mono ?_; rintro e W1 ⟨rfl, k1⟩)
      have hK1 : W1.heap[D]? = some (Obj.deferred (some [])) := (k1.block D (Array.getElem?_eq_some_iff.1 hK).1).trans hK
      refine ⟨by simp, .inl ⟨_, _, rfl, run_takeDeferred hK1, ?_⟩⟩
      exact ⟨.string (⟨#[47]⟩ ++ JJ), by simp [results, Tryz.results22, go_sem], by rw [HFIN.out], below_put (by rw [hN]; exact hB.trans (k1.mono (by omega))) (by omega) _⟩
    | true =>
      have hdd : dots (splitB 47 S.data.toList) = K1 ++ [[]] := by rw [hdots]; rfl
      have HJ2 : Hid (∀ (B : Nat) (v : Value) (W : World), OwnS B v (K1 ++ [[]]) W → Calls Tryz.prog 43 #[v, .string ⟨#[47]⟩] W fun e w' => e = .returned (.string JJ) ∧ Below W.heap.size W w') := by rw [← hdd]; exact HJ.out
      clear hdots HJ hdd
      gi_wp2_with (gi_at_builtin; refine wpListIn_append_own _ rfl _ _ 27 rfl (n1 + 4) 9 i1 (.string ⟨#[]⟩) 1 16 Tryz.underlying27 hj hy0 hy1 hy2 rfl (by decide) _ _ _ rfl (hrow.alloc _) ⟨W.heap.size, 0, none⟩ 1 1 [.string ⟨#[]⟩] rfl rfl (cell_one_new _ _ _) (by simp [Value.oneCell']) (by unfold maxLen; omega) (by omega) (by simp; omega) ?_; intro v' w5 hown' hgrow _; obtain ⟨g', cap', rfl⟩ := ownsRow_succ hown'; obtain ⟨hv2, hv3, hr3, hk3, hb3, hbx, hrx, hkp⟩ := coll (n₀ := n1) hv (by decide) hrow (by omega) (by omega) (Nat.le_refl _) hown' hgrow; have hc2 := hv2.cell; have hf2 := hv2.frozen; have hc3 := hv3.cell; have hK5 := hk3.same D _ hK rfl; have HO : Hid (OwnS (n1 + 4) (.slice (some ⟨g', 0, none⟩) (K1.length + 1) cap') (K1 ++ [[]]) (w5.setCell ⟨n1, 0, none⟩ (.slice (some ⟨g', 0, none⟩) (K1.length + 1) cap'))) := (by unfold OwnS encL; rw [List.length_append, List.map_append]; exact hr3 : OwnS _ _ _ _))
      refine ⟨trivial, ?_⟩
      refine (callsIn_wide.2 (HJ2.out _ _ _ HO.out)).mono ?_
      rintro e W1 ⟨rfl, k1⟩
      gi_wp2
      have hK1 : W1.heap[D]? = some (Obj.deferred (some [])) := (k1.block D (Array.getElem?_eq_some_iff.1 hK5).1).trans hK5
      refine ⟨by simp, .inl ⟨_, _, rfl, run_takeDeferred hK1, ?_⟩⟩
      exact ⟨.string (⟨#[47]⟩ ++ JJ), by simp [results, Tryz.results22, go_sem], by rw [HFIN.out], below_put (by rw [hN]; exact hB.trans (hb3.trans (k1.mono (by have := hk3.size; omega)))) (by omega) _⟩
  case stop =>
    rintro D c pre W _ _ h _
    exact h.elim

end Tg
end Go.Proofs.YtodgpcohdaejkabGreatDoor
