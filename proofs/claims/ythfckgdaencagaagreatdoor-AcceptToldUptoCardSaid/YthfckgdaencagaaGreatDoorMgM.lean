/- Several texts as one. -/
import Derived.Test.YthfckgdaencagaaGreatDoorMgL
import Derived.Test.YthfckgdaencagaaGreatDoorMgF
/-
  The document's Unquote.
-/
set_option linter.unusedVariables false
set_option linter.unusedSimpArgs false
namespace Go.Proofs.YthfckgdaencagaaGreatDoor
open Go.RowKit Go.Shelf
namespace Oc

theorem unqR_zero (s : ByteArray) (h : ¬ (0 < s.size ∧ byt s 0 = 34)) : unqR s.data.toList = ([], 0, 13) := by
  unfold unqR
  rw [if_pos (qlen_none s h)]
theorem head_quote (s : ByteArray) (h : 0 < s.size) (h2 : byt s 0 = 34) : s.data.toList = 34 :: s.data.toList.drop 1 := by
  have e : s.data.toList.getD 0 0 = 34 := UInt8.toNat_inj.1 (by unfold byt at h2; show _ = 34; omega)
  conv => lhs; rw [cons_of (show ¬ s.size = 0 by omega), e]
theorem own_empty (w : World) : Own w.heap.size (.slice (some ⟨w.heap.size, 0, none⟩) 0 0) [] (w.alloc (.cells #[] 5)) :=
  ⟨by simp [Lib.byteCells], .inr ⟨w.heap.size, 0, #[], rfl, Nat.le_refl _, heap_alloc_new w _, by simp, by decide, by simp, by simp [Lib.byteCells]⟩⟩
theorem map_none {α β : Type} {o : Option α} {f : α → β} (h : o = none) : o.map f = none := by rw [h]; rfl
theorem ru_end (c : UInt8) (l : List UInt8) (h : c = 34) : ru false (c :: l) = some ([], 1) := by subst h; rw [ru, if_pos rfl]
theorem ru_back (c : UInt8) (l : List UInt8) (h : c = 92) : ru false (c :: l) = (ru true l).map (fun x => (x.1, x.2 + 1)) := by subst h; rw [ru, if_neg (by decide), if_pos rfl]
theorem ru_bad (c : UInt8) (l : List UInt8) (h : fieldB c = false) : ru false (c :: l) = none := by
  rw [ru, if_neg (by intro e; subst e; simp [field34] at h), if_neg (by intro e; subst e; simp [field92] at h), h]
  rfl
theorem ru_on (c : UInt8) (l : List UInt8) (h : fieldB c = true) (h1 : c ≠ 34) (h2 : c ≠ 92) : ru false (c :: l) = (ru false l).map (fun x => (c :: x.1, x.2 + 1)) := by
  rw [ru, if_neg h1, if_neg h2, if_pos h]
theorem rut_bad (c : UInt8) (l : List UInt8) (h : fieldB c = false) : ru true (c :: l) = none := by rw [ru, h]; rfl
theorem rut_on (c : UInt8) (l : List UInt8) (h : fieldB c = true) : ru true (c :: l) = (ru false l).map (fun x => (c :: x.1, x.2 + 1)) := by rw [ru, if_pos h]
theorem shift1 (o : List UInt8) (k : Nat) (u : UInt8) (r : Option (List UInt8 × Nat)) (hk : 1 ≤ k) :
    ((r.map (fun x => (u :: x.1, x.2 + 1))).map (fun x => (o ++ x.1, x.2 + (k - 1)))) = r.map (fun x => ((o ++ [u]) ++ x.1, x.2 + (k + 1 - 1))) := by
  cases r with
  | none => rfl
  | some x => simp; omega
theorem shift2 (o : List UInt8) (k : Nat) (u : UInt8) (r : Option (List UInt8 × Nat)) (hk : 1 ≤ k) :
    (((r.map (fun x => (u :: x.1, x.2 + 1))).map (fun x => (x.1, x.2 + 1))).map (fun x => (o ++ x.1, x.2 + (k - 1)))) = r.map (fun x => ((o ++ [u]) ++ x.1, x.2 + (k + 2 - 1))) := by
  cases r with
  | none => rfl
  | some x => simp; omega

set_option maxRecDepth 100000 in
set_option maxHeartbeats 2000000 in
theorem rUnquote_any (s : ByteArray) (hs : s.size ≤ 134217728) (w : World) :
    Calls Tryz.prog 30 #[.string s] w fun e w' => e = .returned (.tuple #[.string (str (unqR s.data.toList).1), .int .i64 (unqR s.data.toList).2.1, .int .i64 (unqR s.data.toList).2.2]) ∧ Below w.heap.size w w' := by
  by_cases hp : 0 < s.size ∧ byt s 0 = 34
  · obtain ⟨hp1, hp2⟩ := hp
    have he := nonempty_of (show ¬ s.size = 0 by omega)
    have hby : (((s[0]'hp1).toNat : Nat) : Int) = byt s 0 := byt_at s 0 hp1
    have HH : Hid (s.data.toList = 34 :: s.data.toList.drop 1) := head_quote s hp1 hp2
    have HE : Hid (ru false (s.data.toList.drop 1) = none → unqR s.data.toList = ([], 0, 13)) := fun h => by rw [HH.out]; exact unqR_none _ h
    have HO : Hid (∀ o k, ru false (s.data.toList.drop 1) = some (o, k) → unqR s.data.toList = (o, (k : Int) + 1, 0)) := fun o k h => by rw [HH.out]; exact unqR_some _ _ h
    have hb34 : (byt s 0 != 34) = false := by simp [hp2]
    have hp2' : Hid (byt s 0 = 34) := hp2
    clear hp2
    go_enter Tryz.func30, Tryz.ntmps30
    go_wp2
    clear hby hb34 he
    go_loopw [5, 6] (fun sv i wr => ∃ (k : Nat) (o : List UInt8), 1 ≤ k ∧ k ≤ s.size + 1 ∧ i = .int .i64 k ∧ o.length ≤ k ∧ Hid (ru false (s.data.toList.drop 1) = (ru false (s.data.toList.drop k)).map (fun x => (o ++ x.1, x.2 + (k - 1)))) ∧ Hid (Own w.heap.size sv o wr) ∧ Hid (Below w.heap.size w wr)) (fun _ i _ => s.size + 1 - (intOf i).toNat)
    case atStart => exact ⟨1, [], Nat.le_refl _, by omega, rfl, by simp, (by simp : ru false (s.data.toList.drop 1) = (ru false (s.data.toList.drop 1)).map (fun x => ([] ++ x.1, x.2 + (1 - 1)))), own_empty w, (Below.refl _ w).alloc (Nat.le_refl _) _⟩
    case round =>
      obtain ⟨k, o, hk1, hk, rfl, hol, hst, hown, hbl⟩ := hrel
      have hsz := hbl.out.size
      by_cases hlt : k < s.size
      · have hby : ((s[k].toNat : Nat) : Int) = byt s k := byt_at s k hlt
        obtain ⟨b0, b1⟩ := byt_bd s k
        have HC : Hid (byt s k = ((s.data.toList.getD k 0).toNat : Int)) := rfl
        have HD : Hid (s.data.toList.drop k = s.data.toList.getD k 0 :: s.data.toList.drop (k + 1)) := drop_cons _ k (by rw [size_list]; exact hlt)
        generalize s.data.toList.getD k 0 = u at HC HD
        by_cases h92 : byt s k = 92
        · have h34' : (byt s k == 34) = false := by simp [h92]
          have h92' : (byt s k == 92) = true := by simp [h92]
          have HU : Hid (u = 92) := UInt8.toNat_inj.1 (by have := HC.out; show u.toNat = 92; omega)
          clear h92
          have HS1 : Hid (ru false (s.data.toList.drop 1) = ((ru true (s.data.toList.drop (k + 1))).map (fun x => (x.1, x.2 + 1))).map (fun x => (o ++ x.1, x.2 + (k - 1)))) := by
            show ru _ _ = _
            rw [hst.out, HD.out, ru_back _ _ HU.out]
          by_cases hlt2 : k + 1 < s.size
          · have hby2 : ((s[k + 1].toNat : Nat) : Int) = byt s (k + 1) := byt_at s (k + 1) hlt2
            obtain ⟨d0, d1⟩ := byt_bd s (k + 1)
            have HC2 : Hid (byt s (k + 1) = ((s.data.toList.getD (k + 1) 0).toNat : Int)) := rfl
            have HD2 : Hid (s.data.toList.drop (k + 1) = s.data.toList.getD (k + 1) 0 :: s.data.toList.drop (k + 2)) := drop_cons _ (k + 1) (by rw [size_list]; exact hlt2)
            generalize s.data.toList.getD (k + 1) 0 = u2b at HC2 HD2
            have HF : Hid (fieldB u2b = fieldI (byt s (k + 1))) := (by unfold fieldB; rw [HC2.out] : fieldB u2b = fieldI (byt s (k + 1)))
            cases hf : fieldI (byt s (k + 1)) with
            | false =>
              have HN : Hid (unqR s.data.toList = ([], 0, 13)) := HE.out (by rw [HS1.out, HD2.out, rut_bad _ _ (by rw [HF.out]; exact hf)]; rfl)
              go_wp2_with (go_at_call 53; refine (IsByte_any _ (by omega) (by omega) _).mono ?_; rintro e w' ⟨rfl, rfl⟩)
              go_ret3
              rw [HN.out]
              exact ⟨rfl, hbl.out⟩
            | true =>
              have HN : Hid (ru false (s.data.toList.drop 1) = (ru false (s.data.toList.drop (k + 2))).map (fun x => ((o ++ [u2b]) ++ x.1, x.2 + (k + 2 - 1)))) := by
                show ru _ _ = _
                rw [HS1.out, HD2.out, rut_on _ _ (by rw [HF.out]; exact hf), shift2 _ _ _ _ hk1]
              go_wp2_with (first | (go_at_call 53; refine (IsByte_any _ (by omega) (by omega) _).mono ?_; rintro e w' ⟨rfl, rfl⟩) | (at_builtin; refine wp_app rfl (.tmp 44) (.tmp 48) rfl w.heap.size _ o _ _ u2b HC2.out rfl hown.out rfl ?h1 ?h2 ?_))
              case h1 => omega
              case h2 => omega
              intro v4 w4 hown4 hbl4 _
              have HO4 : Hid (Own w.heap.size v4 (o ++ [u2b]) w4) := hown4
              have HB4 : Hid (Below w.heap.size w w4) := hbl.out.trans hbl4
              clear hown4 hbl4
              go_wp2
              go_roundw
              case rel => exact ⟨k + 2, o ++ [u2b], by omega, by omega, by go_num, by simp; omega, HN, HO4, HB4⟩
              case measure => simp [intOf]; omega
          · have HN : Hid (unqR s.data.toList = ([], 0, 13)) := HE.out (by
              rw [HS1.out, show s.data.toList.drop (k + 1) = [] from List.drop_of_length_le (by rw [size_list]; omega)]
              rfl)
            have hge : ¬ ((k : Int) + 1 < (s.size : Int)) := by omega
            go_wp2
            go_ret3
            rw [HN.out]
            exact ⟨rfl, hbl.out⟩
        · have h92' : (byt s k == 92) = false := by simp [h92]
          by_cases h34 : byt s k = 34
          · have HN : Hid (unqR s.data.toList = (o, (k : Int) + 1, 0)) := by
              have h1 := HO.out o k (by
                rw [hst.out, HD.out, ru_end _ _ (UInt8.toNat_inj.1 (by have := HC.out; show u.toNat = 34; omega))]
                simp
                omega)
              exact h1
            have h34' : (byt s k == 34) = true := by simp [h34]
            have hbk := own_back hown.out
            clear h34 h92
            go_wp2
            go_ret3
            rw [HN.out]
            exact ⟨rfl, hbl.out⟩
          · have h34' : (byt s k == 34) = false := by simp [h34]
            have HU1 : Hid (u ≠ 34 ∧ u ≠ 92) := ⟨fun e => h34 (by have := HC.out; rw [e] at this; exact this), fun e => h92 (by have := HC.out; rw [e] at this; exact this)⟩
            have HF : Hid (fieldB u = fieldI (byt s k)) := (by unfold fieldB; rw [HC.out] : fieldB u = fieldI (byt s k))
            clear h34 h92
            cases hf : fieldI (byt s k) with
            | false =>
              have HN : Hid (unqR s.data.toList = ([], 0, 13)) := HE.out (by rw [hst.out, HD.out, ru_bad _ _ (by rw [HF.out]; exact hf)]; rfl)
              go_wp2_with (go_at_call 53; refine (IsByte_any _ (by omega) (by omega) _).mono ?_; rintro e w' ⟨rfl, rfl⟩)
              go_ret3
              rw [HN.out]
              exact ⟨rfl, hbl.out⟩
            | true =>
              have HN : Hid (ru false (s.data.toList.drop 1) = (ru false (s.data.toList.drop (k + 1))).map (fun x => ((o ++ [u]) ++ x.1, x.2 + (k + 1 - 1)))) := by
                show ru _ _ = _
                rw [hst.out, HD.out, ru_on _ _ (by rw [HF.out]; exact hf) HU1.out.1 HU1.out.2, shift1 _ _ _ _ hk1]
              go_wp2_with (first | (go_at_call 53; refine (IsByte_any _ (by omega) (by omega) _).mono ?_; rintro e w' ⟨rfl, rfl⟩) | (at_builtin; refine wp_app rfl (.tmp 44) (.tmp 48) rfl w.heap.size _ o _ _ u HC.out rfl hown.out rfl ?h1 ?h2 ?_))
              case h1 => omega
              case h2 => omega
              intro v4 w4 hown4 hbl4 _
              have HO4 : Hid (Own w.heap.size v4 (o ++ [u]) w4) := hown4
              have HB4 : Hid (Below w.heap.size w w4) := hbl.out.trans hbl4
              clear hown4 hbl4
              go_wp2
              go_roundw
              case rel => exact ⟨k + 1, o ++ [u], by omega, by omega, by go_num, by simp; omega, HN, HO4, HB4⟩
              case measure => simp [intOf]; omega
      · have HN : Hid (unqR s.data.toList = ([], 0, 13)) := HE.out (by
          rw [hst.out, show s.data.toList.drop k = [] from List.drop_of_length_le (by rw [size_list]; omega)]
          rfl)
        go_wp2
        go_ret3
        rw [HN.out]
        exact ⟨rfl, hbl.out⟩
  · have HU : Hid (unqR s.data.toList = ([], 0, 13)) := unqR_zero s hp
    by_cases hz : s.size = 0
    · have he := empty_of hz
      clear hz hp
      go_enter Tryz.func30, Tryz.ntmps30
      go_wp2
      go_ret3
      rw [HU.out]
      exact ⟨rfl, Below.refl _ _⟩
    · have he := nonempty_of hz
      have hp1 : 0 < s.size := by omega
      have hby : (((s[0]'hp1).toNat : Nat) : Int) = byt s 0 := byt_at s 0 hp1
      have hb34 : (byt s 0 != 34) = true := by simp; exact fun e => hp ⟨hp1, e⟩
      clear hp
      go_enter Tryz.func30, Tryz.ntmps30
      go_wp2
      go_ret3
      rw [HU.out]
      exact ⟨rfl, Below.refl _ _⟩

end Oc
end Go.Proofs.YthfckgdaencagaaGreatDoor

/-
  Parameters, plainly: over lists of bytes.
-/
set_option linter.unusedVariables false
set_option linter.unusedSimpArgs false
namespace Go.Proofs.YthfckgdaencagaaGreatDoor
namespace Oc

/-- A parameter: its name, its value, whether it has one. -/
abbrev Prm := List UInt8 × List UInt8 × Bool
/-- How many blanks stand at the front. -/
def bl (r : List UInt8) : Nat := (r.takeWhile blankB).length
/-- A value at the front, and how many bytes it has. -/
def rv (r : List UInt8) : Option (List UInt8 × Nat) :=
  if 0 < tokLen r then some (r.take (tokLen r), tokLen r) else if qlen r = 0 then none else some (psay false ((r.drop 1).take (qlen r - 2)), qlen r)
/-- Whether a value is told behind a name of n bytes. -/
def told (r : List UInt8) (n : Nat) : Bool := decide (0 < n ∧ n < r.length ∧ r.getD n 0 = 61)
/-- A parameter at the front, and how many bytes it has. -/
def rp (r : List UInt8) : Option (Prm × Nat) :=
  if told r (tokLen r) then (rv (r.drop (tokLen r + 1))).map (fun x => ((r.take (tokLen r), x.1, true), tokLen r + 1 + x.2)) else some ((r.take (tokLen r), [], false), tokLen r)
/-- Whether a semicolon stands there. -/
def semi (r : List UInt8) (n : Nat) : Bool := decide (n < r.length ∧ r.getD n 0 = 59)
/-- One step: an error; the end; or bytes, and what they say. -/
def pstep (r : List UInt8) : Option (Option (Nat × List Prm)) :=
  if semi r (bl r) then
    (rp ((r.drop (bl r + 1)).drop (bl (r.drop (bl r + 1))))).map (fun x => some (if x.2 = 0 then (bl r + 1, []) else (bl r + 1 + bl (r.drop (bl r + 1)) + x.2, [x.1])))
  else some none
def pgo : Nat → List UInt8 → Option (List Prm × Nat)
  | 0, _ => none
  | f + 1, r => match pstep r with
    | none => none
    | some none => some ([], 0)
    | some (some x) => (pgo f (r.drop x.1)).map (fun y => (x.2 ++ y.1, x.1 + y.2))
def prm (r : List UInt8) : Option (List Prm × Nat) := pgo (r.length + 1) r

theorem bl_le (r : List UInt8) : bl r ≤ r.length := by
  unfold bl
  exact (List.takeWhile_prefix blankB).length_le
theorem tokLen_le (r : List UInt8) : tokLen r ≤ r.length := by
  unfold tokLen
  exact (List.takeWhile_prefix tokB).length_le
theorem bl_trim (r : List UInt8) : bl r + (trimL r).length = r.length := by
  unfold bl trimL
  have := congrArg List.length (List.takeWhile_append_dropWhile (p := blankB) (l := r))
  rw [List.length_append] at this
  exact this
theorem rv_le (r : List UInt8) (x : List UInt8 × Nat) (h : rv r = some x) : x.2 ≤ r.length ∧ 0 < x.2 ∧ x.1.length ≤ r.length := by
  unfold rv at h
  split at h
  · cases h
    have := tokLen_le r
    rename_i h0
    simp
    omega
  · split at h
    · cases h
    · cases h
      have hb := qlen_bd r
      have hp := psay_le ((r.drop 1).take (qlen r - 2)) false
      rw [List.length_take, List.length_drop] at hp
      rename_i h1 h2
      refine ⟨hb.1, by have := hb.2 h2; omega, ?_⟩
      show (psay _ _).length ≤ _
      omega
theorem rp_le (r : List UInt8) (x : Prm × Nat) (h : rp r = some x) : x.2 ≤ r.length ∧ x.1.1.length ≤ r.length ∧ x.1.2.1.length ≤ r.length := by
  unfold rp at h
  have ht := tokLen_le r
  split at h
  · rename_i hh
    obtain ⟨y, hy, rfl⟩ := Option.map_eq_some_iff.1 h
    have hb := rv_le _ y hy
    rw [List.length_drop] at hb
    have := of_decide_eq_true hh
    simp
    omega
  · cases h
    simp
    omega
theorem pstep_le (r : List UInt8) (x : Nat × List Prm) (h : pstep r = some (some x)) : 0 < x.1 ∧ x.1 ≤ r.length ∧ x.2.length ≤ 1 := by
  unfold pstep at h
  split at h
  · rename_i hs
    have hs := of_decide_eq_true hs
    obtain ⟨y, hy, e⟩ := Option.map_eq_some_iff.1 h
    have hy2 := rp_le _ y hy
    rw [List.length_drop, List.length_drop] at hy2
    have hb2 := bl_le (r.drop (bl r + 1))
    rw [List.length_drop] at hb2
    split at e
    · cases e
      simp
      omega
    · cases e
      simp
      omega
  · cases h
theorem pgo_fuel : ∀ (n : Nat) (r : List UInt8) (f : Nat), r.length ≤ n → r.length < f → pgo f r = prm r
  | n, r, 0, _, h => by simp at h
  | n, r, f + 1, hn, hf => by
    unfold prm
    rw [pgo, pgo]
    cases hp : pstep r with
    | none => rfl
    | some o =>
      cases o with
      | none => rfl
      | some x =>
        have hx := pstep_le r x hp
        have hd : (r.drop x.1).length < r.length := by rw [List.length_drop]; omega
        show Option.map _ (pgo f (r.drop x.1)) = Option.map _ (pgo r.length (r.drop x.1))
        cases n with
        | zero => omega
        | succ n => rw [pgo_fuel n (r.drop x.1) f (by omega) (by omega), pgo_fuel n (r.drop x.1) r.length (by omega) (by omega)]
theorem prm_none {r : List UInt8} (h : pstep r = none) : prm r = none := by unfold prm; rw [pgo, h]
theorem prm_end {r : List UInt8} (h : pstep r = some none) : prm r = some ([], 0) := by unfold prm; rw [pgo, h]
theorem prm_on {r : List UInt8} {x : Nat × List Prm} (h : pstep r = some (some x)) : prm r = (prm (r.drop x.1)).map (fun y => (x.2 ++ y.1, x.1 + y.2)) := by
  have hx := pstep_le r x h
  have hd : (r.drop x.1).length < r.length := by rw [List.length_drop]; omega
  rw [← pgo_fuel (r.drop x.1).length (r.drop x.1) r.length (Nat.le_refl _) hd]
  unfold prm
  rw [pgo, h]
/-- What Params answers. -/
def paramsR (l : List UInt8) : List Prm × Int × Int := match prm l with | some x => (x.1, (x.2 : Int), 0) | none => ([], 0, 15)
theorem paramsR_some {l : List UInt8} {x : List Prm × Nat} (h : prm l = some x) : paramsR l = (x.1, (x.2 : Int), 0) := by unfold paramsR; rw [h]
theorem paramsR_none {l : List UInt8} (h : prm l = none) : paramsR l = ([], 0, 15) := by unfold paramsR; rw [h]

theorem pstep_stop {r : List UInt8} (h : semi r (bl r) = false) : pstep r = some none := by unfold pstep; rw [h]; rfl
theorem pstep_bad {r : List UInt8} (h : semi r (bl r) = true) (h2 : rp ((r.drop (bl r + 1)).drop (bl (r.drop (bl r + 1)))) = none) : pstep r = none := by unfold pstep; rw [if_pos h, h2]; rfl
theorem pstep_empty {r : List UInt8} {x : Prm × Nat} (h : semi r (bl r) = true) (h2 : rp ((r.drop (bl r + 1)).drop (bl (r.drop (bl r + 1)))) = some x) (h3 : x.2 = 0) : pstep r = some (some (bl r + 1, [])) := by
  unfold pstep; rw [if_pos h, h2]; simp [h3]
theorem pstep_one {r : List UInt8} {x : Prm × Nat} (h : semi r (bl r) = true) (h2 : rp ((r.drop (bl r + 1)).drop (bl (r.drop (bl r + 1)))) = some x) (h3 : x.2 ≠ 0) :
    pstep r = some (some (bl r + 1 + bl (r.drop (bl r + 1)) + x.2, [x.1])) := by
  unfold pstep; rw [if_pos h, h2]; simp [h3]

end Oc
end Go.Proofs.YthfckgdaencagaaGreatDoor
