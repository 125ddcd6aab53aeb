/- Several texts as one. -/
import Derived.Test.YtndglpjkmgcdpaaGreatDoorMgK
import Derived.Test.YtndglpjkmgcdpaaGreatDoorMgJ
import Derived.Test.YtndglpjkmgcdpaaGreatDoorMgH
/-
  The document's Unquote.
-/
set_option linter.unusedVariables false
set_option linter.unusedSimpArgs false
namespace Go.Proofs.YtndglpjkmgcdpaaGreatDoor
open Go.RowKit Go.Shelf
namespace Oc

theorem unqR_zero (s : ByteArray) (h : ¬ (0 < s.size ∧ byt s 0 = 34)) : unqR s.data.toList = ([], 0, 13) := by
  unfold unqR
  rw [if_pos (qlen_none s h)]
theorem head_quote (s : ByteArray) (h : 0 < s.size) (h2 : byt s 0 = 34) : s.data.toList = 34 :: s.data.toList.drop 1 := by
  have e : s.data.toList.getD 0 0 = 34 := UInt8.toNat_inj.1 (by unfold byt at h2; show _ = 34; omega)
  conv => lhs; rw [cons_of (show ¬ s.size = 0 by omega), e]
theorem own_empty (w : World) : Own w.heap.size (.slice (some ⟨w.heap.size, 0, none⟩) 0 0) [] (w.alloc (.cells #[] 5)) :=
  ⟨by simp [Lib.byteCells], .inr ⟨w.heap.size, 0, #[], rfl, Nat.le_refl _, heap_alloc_new w _, by simp, by decide, by simp, by simp [Lib.byteCells]⟩⟩
theorem map_none {α β : Type} {o : Option α} {f : α → β} (h : o = none) : o.map f = none := by rw [h]; rfl
theorem ru_end (c : UInt8) (l : List UInt8) (h : c = 34) : ru false (c :: l) = some ([], 1) := by subst h; rw [ru, if_pos rfl]
theorem ru_back (c : UInt8) (l : List UInt8) (h : c = 92) : ru false (c :: l) = (ru true l).map (fun x => (x.1, x.2 + 1)) := by subst h; rw [ru, if_neg (by decide), if_pos rfl]
theorem ru_bad (c : UInt8) (l : List UInt8) (h : fieldB c = false) : ru false (c :: l) = none := by
  rw [ru, if_neg (by intro e; subst e; simp [field34] at h), if_neg (by intro e; subst e; simp [field92] at h), h]
  rfl
theorem ru_on (c : UInt8) (l : List UInt8) (h : fieldB c = true) (h1 : c ≠ 34) (h2 : c ≠ 92) : ru false (c :: l) = (ru false l).map (fun x => (c :: x.1, x.2 + 1)) := by
  rw [ru, if_neg h1, if_neg h2, if_pos h]
theorem rut_bad (c : UInt8) (l : List UInt8) (h : fieldB c = false) : ru true (c :: l) = none := by rw [ru, h]; rfl
theorem rut_on (c : UInt8) (l : List UInt8) (h : fieldB c = true) : ru true (c :: l) = (ru false l).map (fun x => (c :: x.1, x.2 + 1)) := by rw [ru, if_pos h]
theorem shift1 (o : List UInt8) (k : Nat) (u : UInt8) (r : Option (List UInt8 × Nat)) (hk : 1 ≤ k) :
    ((r.map (fun x => (u :: x.1, x.2 + 1))).map (fun x => (o ++ x.1, x.2 + (k - 1)))) = r.map (fun x => ((o ++ [u]) ++ x.1, x.2 + (k + 1 - 1))) := by
  cases r with
  | none => rfl
  | some x => simp; omega
theorem shift2 (o : List UInt8) (k : Nat) (u : UInt8) (r : Option (List UInt8 × Nat)) (hk : 1 ≤ k) :
    (((r.map (fun x => (u :: x.1, x.2 + 1))).map (fun x => (x.1, x.2 + 1))).map (fun x => (o ++ x.1, x.2 + (k - 1)))) = r.map (fun x => ((o ++ [u]) ++ x.1, x.2 + (k + 2 - 1))) := by
  cases r with
  | none => rfl
  | some x => simp; omega

set_option maxRecDepth 100000 in
set_option maxHeartbeats 2000000 in
theorem rUnquote_any (s : ByteArray) (hs : s.size ≤ 134217728) (w : World) :
    Calls Tryz.prog 118 #[.string s] w fun e w' => e = .returned (.tuple #[.string (str (unqR s.data.toList).1), .int .i64 (unqR s.data.toList).2.1, .int .i64 (unqR s.data.toList).2.2]) ∧ Below w.heap.size w w' := by
  by_cases hp : 0 < s.size ∧ byt s 0 = 34
  · obtain ⟨hp1, hp2⟩ := hp
    have he := nonempty_of (show ¬ s.size = 0 by omega)
    have hby : (((s[0]'hp1).toNat : Nat) : Int) = byt s 0 := byt_at s 0 hp1
    have HH : Hid (s.data.toList = 34 :: s.data.toList.drop 1) := head_quote s hp1 hp2
    have HE : Hid (ru false (s.data.toList.drop 1) = none → unqR s.data.toList = ([], 0, 13)) := fun h => by rw [HH.out]; exact unqR_none _ h
    have HO : Hid (∀ o k, ru false (s.data.toList.drop 1) = some (o, k) → unqR s.data.toList = (o, (k : Int) + 1, 0)) := fun o k h => by rw [HH.out]; exact unqR_some _ _ h
    have hb34 : (byt s 0 != 34) = false := by simp [hp2]
    have hp2' : Hid (byt s 0 = 34) := hp2
    clear hp2
    go_enter Tryz.func118, Tryz.ntmps118
    go_wp2
    clear hby hb34 he
    go_loopw [5, 6] (fun sv i wr => ∃ (k : Nat) (o : List UInt8), 1 ≤ k ∧ k ≤ s.size + 1 ∧ i = .int .i64 k ∧ o.length ≤ k ∧ Hid (ru false (s.data.toList.drop 1) = (ru false (s.data.toList.drop k)).map (fun x => (o ++ x.1, x.2 + (k - 1)))) ∧ Hid (Own w.heap.size sv o wr) ∧ Hid (Below w.heap.size w wr)) (fun _ i _ => s.size + 1 - (intOf i).toNat)
    case atStart => exact ⟨1, [], Nat.le_refl _, by omega, rfl, by simp, (by simp : ru false (s.data.toList.drop 1) = (ru false (s.data.toList.drop 1)).map (fun x => ([] ++ x.1, x.2 + (1 - 1)))), own_empty w, (Below.refl _ w).alloc (Nat.le_refl _) _⟩
    case round =>
      obtain ⟨k, o, hk1, hk, rfl, hol, hst, hown, hbl⟩ := hrel
      have hsz := hbl.out.size
      by_cases hlt : k < s.size
      · have hby : ((s[k].toNat : Nat) : Int) = byt s k := byt_at s k hlt
        obtain ⟨b0, b1⟩ := byt_bd s k
        have HC : Hid (byt s k = ((s.data.toList.getD k 0).toNat : Int)) := rfl
        have HD : Hid (s.data.toList.drop k = s.data.toList.getD k 0 :: s.data.toList.drop (k + 1)) := drop_cons _ k (by rw [size_list]; exact hlt)
        generalize s.data.toList.getD k 0 = u at HC HD
        by_cases h92 : byt s k = 92
        · have h34' : (byt s k == 34) = false := by simp [h92]
          have h92' : (byt s k == 92) = true := by simp [h92]
          have HU : Hid (u = 92) := UInt8.toNat_inj.1 (by have := HC.out; show u.toNat = 92; omega)
          clear h92
          have HS1 : Hid (ru false (s.data.toList.drop 1) = ((ru true (s.data.toList.drop (k + 1))).map (fun x => (x.1, x.2 + 1))).map (fun x => (o ++ x.1, x.2 + (k - 1)))) := by
            show ru _ _ = _
            rw [hst.out, HD.out, ru_back _ _ HU.out]
          by_cases hlt2 : k + 1 < s.size
          · have hby2 : ((s[k + 1].toNat : Nat) : Int) = byt s (k + 1) := byt_at s (k + 1) hlt2
            obtain ⟨d0, d1⟩ := byt_bd s (k + 1)
            have HC2 : Hid (byt s (k + 1) = ((s.data.toList.getD (k + 1) 0).toNat : Int)) := rfl
            have HD2 : Hid (s.data.toList.drop (k + 1) = s.data.toList.getD (k + 1) 0 :: s.data.toList.drop (k + 2)) := drop_cons _ (k + 1) (by rw [size_list]; exact hlt2)
            generalize s.data.toList.getD (k + 1) 0 = u2b at HC2 HD2
            have HF : Hid (fieldB u2b = fieldI (byt s (k + 1))) := (by unfold fieldB; rw [HC2.out] : fieldB u2b = fieldI (byt s (k + 1)))
            cases hf : fieldI (byt s (k + 1)) with
            | false =>
              have HN : Hid (unqR s.data.toList = ([], 0, 13)) := HE.out (by rw [HS1.out, HD2.out, rut_bad _ _ (by rw [HF.out]; exact hf)]; rfl)
              go_wp2_with (go_at_call 48; refine (IsByte_any _ (by omega) (by omega) _).mono ?_; rintro e w' ⟨rfl, rfl⟩)
              go_ret3
              rw [HN.out]
              exact ⟨rfl, hbl.out⟩
            | true =>
              have HN : Hid (ru false (s.data.toList.drop 1) = (ru false (s.data.toList.drop (k + 2))).map (fun x => ((o ++ [u2b]) ++ x.1, x.2 + (k + 2 - 1)))) := by
                show ru _ _ = _
                rw [HS1.out, HD2.out, rut_on _ _ (by rw [HF.out]; exact hf), shift2 _ _ _ _ hk1]
              go_wp2_with (first | (go_at_call 48; refine (IsByte_any _ (by omega) (by omega) _).mono ?_; rintro e w' ⟨rfl, rfl⟩) | (at_builtin; refine wp_app rfl (.tmp 44) (.tmp 48) rfl w.heap.size _ o _ _ u2b HC2.out rfl hown.out rfl ?h1 ?h2 ?_))
              case h1 => omega
              case h2 => omega
              intro v4 w4 hown4 hbl4 _
              have HO4 : Hid (Own w.heap.size v4 (o ++ [u2b]) w4) := hown4
              have HB4 : Hid (Below w.heap.size w w4) := hbl.out.trans hbl4
              clear hown4 hbl4
              go_wp2
              go_roundw
              case rel => exact ⟨k + 2, o ++ [u2b], by omega, by omega, by go_num, by simp; omega, HN, HO4, HB4⟩
              case measure => simp [intOf]; omega
          · have HN : Hid (unqR s.data.toList = ([], 0, 13)) := HE.out (by
              rw [HS1.out, show s.data.toList.drop (k + 1) = [] from List.drop_of_length_le (by rw [size_list]; omega)]
              rfl)
            have hge : ¬ ((k : Int) + 1 < (s.size : Int)) := by omega
            go_wp2
            go_ret3
            rw [HN.out]
            exact ⟨rfl, hbl.out⟩
        · have h92' : (byt s k == 92) = false := by simp [h92]
          by_cases h34 : byt s k = 34
          · have HN : Hid (unqR s.data.toList = (o, (k : Int) + 1, 0)) := by
              have h1 := HO.out o k (by
                rw [hst.out, HD.out, ru_end _ _ (UInt8.toNat_inj.1 (by have := HC.out; show u.toNat = 34; omega))]
                simp
                omega)
              exact h1
            have h34' : (byt s k == 34) = true := by simp [h34]
            have hbk := own_back hown.out
            clear h34 h92
            go_wp2
            go_ret3
            rw [HN.out]
            exact ⟨rfl, hbl.out⟩
          · have h34' : (byt s k == 34) = false := by simp [h34]
            have HU1 : Hid (u ≠ 34 ∧ u ≠ 92) := ⟨fun e => h34 (by have := HC.out; rw [e] at this; exact this), fun e => h92 (by have := HC.out; rw [e] at this; exact this)⟩
            have HF : Hid (fieldB u = fieldI (byt s k)) := (by unfold fieldB; rw [HC.out] : fieldB u = fieldI (byt s k))
            clear h34 h92
            cases hf : fieldI (byt s k) with
            | false =>
              have HN : Hid (unqR s.data.toList = ([], 0, 13)) := HE.out (by rw [hst.out, HD.out, ru_bad _ _ (by rw [HF.out]; exact hf)]; rfl)
              go_wp2_with (go_at_call 48; refine (IsByte_any _ (by omega) (by omega) _).mono ?_; rintro e w' ⟨rfl, rfl⟩)
              go_ret3
              rw [HN.out]
              exact ⟨rfl, hbl.out⟩
            | true =>
              have HN : Hid (ru false (s.data.toList.drop 1) = (ru false (s.data.toList.drop (k + 1))).map (fun x => ((o ++ [u]) ++ x.1, x.2 + (k + 1 - 1)))) := by
                show ru _ _ = _
                rw [hst.out, HD.out, ru_on _ _ (by rw [HF.out]; exact hf) HU1.out.1 HU1.out.2, shift1 _ _ _ _ hk1]
              go_wp2_with (first | (go_at_call 48; refine (IsByte_any _ (by omega) (by omega) _).mono ?_; rintro e w' ⟨rfl, rfl⟩) | (at_builtin; refine wp_app rfl (.tmp 44) (.tmp 48) rfl w.heap.size _ o _ _ u HC.out rfl hown.out rfl ?h1 ?h2 ?_))
              case h1 => omega
              case h2 => omega
              intro v4 w4 hown4 hbl4 _
              have HO4 : Hid (Own w.heap.size v4 (o ++ [u]) w4) := hown4
              have HB4 : Hid (Below w.heap.size w w4) := hbl.out.trans hbl4
              clear hown4 hbl4
              go_wp2
              go_roundw
              case rel => exact ⟨k + 1, o ++ [u], by omega, by omega, by go_num, by simp; omega, HN, HO4, HB4⟩
              case measure => simp [intOf]; omega
      · have HN : Hid (unqR s.data.toList = ([], 0, 13)) := HE.out (by
          rw [hst.out, show s.data.toList.drop k = [] from List.drop_of_length_le (by rw [size_list]; omega)]
          rfl)
        go_wp2
        go_ret3
        rw [HN.out]
        exact ⟨rfl, hbl.out⟩
  · have HU : Hid (unqR s.data.toList = ([], 0, 13)) := unqR_zero s hp
    by_cases hz : s.size = 0
    · have he := empty_of hz
      clear hz hp
      go_enter Tryz.func118, Tryz.ntmps118
      go_wp2
      go_ret3
      rw [HU.out]
      exact ⟨rfl, Below.refl _ _⟩
    · have he := nonempty_of hz
      have hp1 : 0 < s.size := by omega
      have hby : (((s[0]'hp1).toNat : Nat) : Int) = byt s 0 := byt_at s 0 hp1
      have hb34 : (byt s 0 != 34) = true := by simp; exact fun e => hp ⟨hp1, e⟩
      clear hp
      go_enter Tryz.func118, Tryz.ntmps118
      go_wp2
      go_ret3
      rw [HU.out]
      exact ⟨rfl, Below.refl _ _⟩

end Oc
end Go.Proofs.YtndglpjkmgcdpaaGreatDoor

/-
  Parameters, plainly: over lists of bytes.
-/
set_option linter.unusedVariables false
set_option linter.unusedSimpArgs false
namespace Go.Proofs.YtndglpjkmgcdpaaGreatDoor
namespace Oc

/-- A parameter: its name, its value, whether it has one. -/
abbrev Prm := List UInt8 × List UInt8 × Bool
/-- How many blanks stand at the front. -/
def bl (r : List UInt8) : Nat := (r.takeWhile blankB).length
/-- A value at the front, and how many bytes it has. -/
def rv (r : List UInt8) : Option (List UInt8 × Nat) :=
  if 0 < tokLen r then some (r.take (tokLen r), tokLen r) else if qlen r = 0 then none else some (psay false ((r.drop 1).take (qlen r - 2)), qlen r)
/-- Whether a value is told behind a name of n bytes. -/
def told (r : List UInt8) (n : Nat) : Bool := decide (0 < n ∧ n < r.length ∧ r.getD n 0 = 61)
/-- A parameter at the front, and how many bytes it has. -/
def rp (r : List UInt8) : Option (Prm × Nat) :=
  if told r (tokLen r) then (rv (r.drop (tokLen r + 1))).map (fun x => ((r.take (tokLen r), x.1, true), tokLen r + 1 + x.2)) else some ((r.take (tokLen r), [], false), tokLen r)
/-- Whether a semicolon stands there. -/
def semi (r : List UInt8) (n : Nat) : Bool := decide (n < r.length ∧ r.getD n 0 = 59)
/-- One step: an error; the end; or bytes, and what they say. -/
def pstep (r : List UInt8) : Option (Option (Nat × List Prm)) :=
  if semi r (bl r) then
    (rp ((r.drop (bl r + 1)).drop (bl (r.drop (bl r + 1))))).map (fun x => some (if x.2 = 0 then (bl r + 1, []) else (bl r + 1 + bl (r.drop (bl r + 1)) + x.2, [x.1])))
  else some none
def pgo : Nat → List UInt8 → Option (List Prm × Nat)
  | 0, _ => none
  | f + 1, r => match pstep r with
    | none => none
    | some none => some ([], 0)
    | some (some x) => (pgo f (r.drop x.1)).map (fun y => (x.2 ++ y.1, x.1 + y.2))
def prm (r : List UInt8) : Option (List Prm × Nat) := pgo (r.length + 1) r

theorem bl_le (r : List UInt8) : bl r ≤ r.length := by
  unfold bl
  exact (List.takeWhile_prefix blankB).length_le
theorem tokLen_le (r : List UInt8) : tokLen r ≤ r.length := by
  unfold tokLen
  exact (List.takeWhile_prefix tokB).length_le
theorem bl_trim (r : List UInt8) : bl r + (trimL r).length = r.length := by
  unfold bl trimL
  have := congrArg List.length (List.takeWhile_append_dropWhile (p := blankB) (l := r))
  rw [List.length_append] at this
  exact this
theorem rv_le (r : List UInt8) (x : List UInt8 × Nat) (h : rv r = some x) : x.2 ≤ r.length ∧ 0 < x.2 ∧ x.1.length ≤ r.length := by
  unfold rv at h
  split at h
  · cases h
    have := tokLen_le r
    rename_i h0
    simp
    omega
  · split at h
    · cases h
    · cases h
      have hb := qlen_bd r
      have hp := psay_le ((r.drop 1).take (qlen r - 2)) false
      rw [List.length_take, List.length_drop] at hp
      rename_i h1 h2
      refine ⟨hb.1, by have := hb.2 h2; omega, ?_⟩
      show (psay _ _).length ≤ _
      omega
theorem rp_le (r : List UInt8) (x : Prm × Nat) (h : rp r = some x) : x.2 ≤ r.length ∧ x.1.1.length ≤ r.length ∧ x.1.2.1.length ≤ r.length := by
  unfold rp at h
  have ht := tokLen_le r
  split at h
  · rename_i hh
    obtain ⟨y, hy, rfl⟩ := Option.map_eq_some_iff.1 h
    have hb := rv_le _ y hy
    rw [List.length_drop] at hb
    have := of_decide_eq_true hh
    simp
    omega
  · cases h
    simp
    omega
theorem pstep_le (r : List UInt8) (x : Nat × List Prm) (h : pstep r = some (some x)) : 0 < x.1 ∧ x.1 ≤ r.length ∧ x.2.length ≤ 1 := by
  unfold pstep at h
  split at h
  · rename_i hs
    have hs := of_decide_eq_true hs
    obtain ⟨y, hy, e⟩ := Option.map_eq_some_iff.1 h
    have hy2 := rp_le _ y hy
    rw [List.length_drop, List.length_drop] at hy2
    have hb2 := bl_le (r.drop (bl r + 1))
    rw [List.length_drop] at hb2
    split at e
    · cases e
      simp
      omega
    · cases e
      simp
      omega
  · cases h
theorem pgo_fuel : ∀ (n : Nat) (r : List UInt8) (f : Nat), r.length ≤ n → r.length < f → pgo f r = prm r
  | n, r, 0, _, h => by simp at h
  | n, r, f + 1, hn, hf => by
    unfold prm
    rw [pgo, pgo]
    cases hp : pstep r with
    | none => rfl
    | some o =>
      cases o with
      | none => rfl
      | some x =>
        have hx := pstep_le r x hp
        have hd : (r.drop x.1).length < r.length := by rw [List.length_drop]; omega
        show Option.map _ (pgo f (r.drop x.1)) = Option.map _ (pgo r.length (r.drop x.1))
        cases n with
        | zero => omega
        | succ n => rw [pgo_fuel n (r.drop x.1) f (by omega) (by omega), pgo_fuel n (r.drop x.1) r.length (by omega) (by omega)]
theorem prm_none {r : List UInt8} (h : pstep r = none) : prm r = none := by unfold prm; rw [pgo, h]
theorem prm_end {r : List UInt8} (h : pstep r = some none) : prm r = some ([], 0) := by unfold prm; rw [pgo, h]
theorem prm_on {r : List UInt8} {x : Nat × List Prm} (h : pstep r = some (some x)) : prm r = (prm (r.drop x.1)).map (fun y => (x.2 ++ y.1, x.1 + y.2)) := by
  have hx := pstep_le r x h
  have hd : (r.drop x.1).length < r.length := by rw [List.length_drop]; omega
  rw [← pgo_fuel (r.drop x.1).length (r.drop x.1) r.length (Nat.le_refl _) hd]
  unfold prm
  rw [pgo, h]
/-- What Params answers. -/
def paramsR (l : List UInt8) : List Prm × Int × Int := match prm l with | some x => (x.1, (x.2 : Int), 0) | none => ([], 0, 15)
theorem paramsR_some {l : List UInt8} {x : List Prm × Nat} (h : prm l = some x) : paramsR l = (x.1, (x.2 : Int), 0) := by unfold paramsR; rw [h]
theorem paramsR_none {l : List UInt8} (h : prm l = none) : paramsR l = ([], 0, 15) := by unfold paramsR; rw [h]

theorem pstep_stop {r : List UInt8} (h : semi r (bl r) = false) : pstep r = some none := by unfold pstep; rw [h]; rfl
theorem pstep_bad {r : List UInt8} (h : semi r (bl r) = true) (h2 : rp ((r.drop (bl r + 1)).drop (bl (r.drop (bl r + 1)))) = none) : pstep r = none := by unfold pstep; rw [if_pos h, h2]; rfl
theorem pstep_empty {r : List UInt8} {x : Prm × Nat} (h : semi r (bl r) = true) (h2 : rp ((r.drop (bl r + 1)).drop (bl (r.drop (bl r + 1)))) = some x) (h3 : x.2 = 0) : pstep r = some (some (bl r + 1, [])) := by
  unfold pstep; rw [if_pos h, h2]; simp [h3]
theorem pstep_one {r : List UInt8} {x : Prm × Nat} (h : semi r (bl r) = true) (h2 : rp ((r.drop (bl r + 1)).drop (bl (r.drop (bl r + 1)))) = some x) (h3 : x.2 ≠ 0) :
    pstep r = some (some (bl r + 1 + bl (r.drop (bl r + 1)) + x.2, [x.1])) := by
  unfold pstep; rw [if_pos h, h2]; simp [h3]

end Oc
end Go.Proofs.YtndglpjkmgcdpaaGreatDoor

/-
  sheet: dispositions, plain: cut at the first semicolon, or read sign by sign: the same.
-/
set_option linter.unusedVariables false
set_option linter.unusedSimpArgs false
namespace Go.Proofs.YtndglpjkmgcdpaaGreatDoor
namespace Ds
open Oc

abbrev Prm3 := List UInt8 × List UInt8 × Bool
def lowN (p : Prm3) : Prm3 := (lower p.1, p.2.1, p.2.2)
/-- All have values, no name stands twice. -/
def noTwo : List (List UInt8) → Bool
  | [] => true
  | x :: r => !r.contains x && noTwo r
def lowOk (ps : List Prm3) : Bool := ps.all (fun p => p.2.2) && noTwo (ps.map fun p => lower p.1)
/-- The program's way. -/
def prgR (l : List UInt8) : List UInt8 × List Prm3 × Int :=
  let s := trim l
  let A := Tg.cutA 59 s
  let P := paramsR (s.drop A.length)
  if P.2.2 ≠ 0 ∨ P.2.1 < ((s.drop A.length).length : Int) ∨ isTok (trim A) = false ∨ lowOk P.1 = false then ([], [], 152) else (lower (trim A), P.1.map lowN, 0)
/-- The document's way. -/
def disR (l : List UInt8) : List UInt8 × List Prm3 × Int :=
  let s := trim l
  let P := paramsR (s.drop (tokLen s))
  if tokLen s = 0 ∨ P.2.2 ≠ 0 ∨ (tokLen s : Int) + P.2.1 ≠ (s.length : Int) ∨ lowOk P.1 = false then ([], [], 152) else (lower (s.take (tokLen s)), P.1.map lowN, 0)

theorem dropWhile_head (p : UInt8 → Bool) (l : List UInt8) : ∀ x t, l.dropWhile p = x :: t → p x = false := by
  induction l with
  | nil => intro x t h; cases h
  | cons c r ih =>
    intro x t h
    rw [List.dropWhile_cons] at h
    split at h
    · exact ih x t h
    · rename_i hp
      injection h with h1 h2
      rw [← h1]
      simpa using hp
/-- What is trimmed neither begins nor ends with a blank. -/
theorem trim_head (l : List UInt8) (x : UInt8) (t : List UInt8) (h : trim l = x :: t) : blankB x = false := by
  have h' : trimL (trimR l) = x :: t := by rw [trim_comm]; exact h
  exact dropWhile_head blankB _ x t h'
theorem trim_last (l : List UInt8) (x : UInt8) (t : List UInt8) (h : trim l = t ++ [x]) : blankB x = false := by
  unfold trim trimR at h
  have h2 := congrArg List.reverse h
  rw [List.reverse_reverse, List.reverse_append] at h2
  exact dropWhile_head blankB _ x t.reverse h2
theorem trimR_keep (Y : List UInt8) (c : UInt8) (X : List UInt8) (hc : blankB c = false) : ∃ X', trimR (Y ++ c :: X) = Y ++ c :: X' := by
  induction Y with
  | nil =>
    rw [List.nil_append, trimR_cons]
    split
    · rw [hc]; exact ⟨[], rfl⟩
    · exact ⟨trimR X, rfl⟩
  | cons y Y ih =>
    obtain ⟨X', e⟩ := ih
    refine ⟨X', ?_⟩
    rw [List.cons_append, trimR_cons]
    have hn : ((Y ++ c :: X).all blankB) = false := by
      rw [List.all_append, List.all_cons, hc]; simp
    rw [hn, if_neg (by simp), e]
    rfl
theorem trimR_none (l : List UInt8) (h : ∀ x ∈ l, blankB x = false) (b : List UInt8) (hb : b.all blankB = true) : trimR (l ++ b) = l := by
  unfold trimR
  rw [List.reverse_append, List.dropWhile_append_of_pos (by
    intro x hx
    exact List.all_eq_true.1 hb x (by simpa using hx))]
  have e : l.reverse.dropWhile blankB = l.reverse := by
    cases hl : l.reverse with
    | nil => rfl
    | cons x t =>
      rw [List.dropWhile_cons, if_neg (by
        have : x ∈ l := by rw [← List.mem_reverse, hl]; simp
        rw [h x this]; simp)]
  rw [e, List.reverse_reverse]
theorem trimL_none (x : UInt8) (t : List UInt8) (h : blankB x = false) : trimL (x :: t) = x :: t := by rw [trimL_cons, h]; rfl
theorem tok_fine : ∀ n : Nat, n < 256 → tokB (UInt8.ofNat n) = true → blankB (UInt8.ofNat n) = false ∧ UInt8.ofNat n ≠ 59 := by decide +kernel
theorem tok_not (c : UInt8) (h : tokB c = true) : blankB c = false ∧ c ≠ 59 := by
  have e : UInt8.ofNat c.toNat = c := by simp
  have f := tok_fine c.toNat c.toNat_lt (by rw [e]; exact h)
  rw [e] at f
  exact f
theorem blank_fine : ∀ n : Nat, n < 256 → blankB (UInt8.ofNat n) = true → tokB (UInt8.ofNat n) = false ∧ UInt8.ofNat n ≠ 59 := by decide +kernel
theorem blank_not (c : UInt8) (h : blankB c = true) : tokB c = false ∧ c ≠ 59 := by
  have e : UInt8.ofNat c.toNat = c := by simp
  have f := blank_fine c.toNat c.toNat_lt (by rw [e]; exact h)
  rw [e] at f
  exact f
theorem cutA_skip (b : UInt8) (Y X : List UInt8) (h : ∀ c ∈ Y, c ≠ b) : Tg.cutA b (Y ++ X) = Y ++ Tg.cutA b X := by
  unfold Tg.cutA
  rw [List.takeWhile_append_of_pos (fun c hc => by simpa using h c hc)]
theorem isTok_eq (T : List UInt8) (h : T.all tokB = true) : isTok T = decide (T ≠ []) := by
  unfold isTok
  cases T with
  | nil => rfl
  | cons c t => simp at h ⊢; exact h
theorem isTok_no (T : List UInt8) (c : UInt8) (hc : c ∈ T) (h : tokB c = false) : isTok T = false := by
  unfold isTok
  have : T.all tokB = false := by
    rw [List.all_eq_false]
    exact ⟨c, hc, by simp [h]⟩
  cases T with
  | nil => cases hc
  | cons x t => simp only [List.isEmpty_cons, Bool.not_false, Bool.true_and]; exact this
/-- Blanks ahead of a semicolon. -/
theorem bl_app (b r : List UInt8) (hb : b.all blankB = true) (hr : bl r = 0) : bl (b ++ r) = b.length := by
  unfold bl at *
  rw [List.takeWhile_append_of_pos (fun x hx => List.all_eq_true.1 hb x hx), List.length_append, hr, Nat.add_zero]
theorem prm_blanks (b t : List UInt8) (hb : b.all blankB = true) : prm (b ++ 59 :: t) = (prm (59 :: t)).map fun y => (y.1, b.length + y.2) := by
  have h0 : bl (59 :: t) = 0 := by unfold bl; rw [List.takeWhile_cons, if_neg (by decide)]; rfl
  have h1 : bl (b ++ 59 :: t) = b.length := bl_app b _ hb h0
  have s0 : semi (59 :: t) (bl (59 :: t)) = true := by rw [h0]; unfold semi; simp
  have s1 : semi (b ++ 59 :: t) (bl (b ++ 59 :: t)) = true := by rw [h1]; unfold semi; simp
  have d0 : (59 :: t).drop (bl (59 :: t) + 1) = t := by rw [h0]; rfl
  have d1 : (b ++ 59 :: t).drop (bl (b ++ 59 :: t) + 1) = t := by rw [h1, List.drop_append, List.drop_of_length_le (by omega)]; simp
  cases hp : rp (t.drop (bl t)) with
  | none =>
    rw [prm_none (pstep_bad s1 (by rw [d1]; exact hp)), prm_none (pstep_bad s0 (by rw [d0]; exact hp))]
    rfl
  | some x =>
    by_cases hx : x.2 = 0
    · have e0 := pstep_empty s0 (by rw [d0]; exact hp) hx
      have e1 := pstep_empty s1 (by rw [d1]; exact hp) hx
      rw [prm_on e0, prm_on e1]
      simp only
      rw [d0, d1, h0, h1]
      cases prm t with
      | none => rfl
      | some y => simp; omega
    · have e0 := pstep_one s0 (by rw [d0]; exact hp) hx
      have e1 := pstep_one s1 (by rw [d1]; exact hp) hx
      rw [prm_on e0, prm_on e1]
      simp only
      rw [d0, d1, h0, h1]
      have f0 : (59 :: t).drop (0 + 1 + bl t + x.2) = t.drop (bl t + x.2) := by rw [show 0 + 1 + bl t + x.2 = (bl t + x.2) + 1 by omega, List.drop_succ_cons]
      have f1 : (b ++ 59 :: t).drop (b.length + 1 + bl t + x.2) = t.drop (bl t + x.2) := by
        rw [List.drop_append, List.drop_of_length_le (by omega), show b.length + 1 + bl t + x.2 - b.length = (bl t + x.2) + 1 by omega, List.drop_succ_cons]
        rfl
      rw [f0, f1]
      cases prm (t.drop (bl t + x.2)) with
      | none => rfl
      | some y => simp; omega
theorem params_blanks (b t : List UInt8) (hb : b.all blankB = true) : (paramsR (b ++ 59 :: t)).1 = (paramsR (59 :: t)).1 ∧ (paramsR (b ++ 59 :: t)).2.2 = (paramsR (59 :: t)).2.2 ∧ ((paramsR (59 :: t)).2.2 = 0 → (paramsR (b ++ 59 :: t)).2.1 = b.length + (paramsR (59 :: t)).2.1) := by
  have h := prm_blanks b t hb
  cases hp : prm (59 :: t) with
  | none =>
    rw [hp] at h
    rw [paramsR_none hp, paramsR_none (by rw [h]; rfl)]
    exact ⟨rfl, rfl, fun h => by cases h⟩
  | some y =>
    rw [hp] at h
    rw [paramsR_some hp, paramsR_some (x := (y.1, b.length + y.2)) (by rw [h]; rfl)]
    exact ⟨rfl, rfl, fun _ => by simp⟩
theorem params_other (b t : List UInt8) (c : UInt8) (hb : b.all blankB = true) (hc : blankB c = false) (h59 : c ≠ 59) : paramsR (b ++ c :: t) = ([], 0, 0) := by
  have h0 : bl (c :: t) = 0 := by unfold bl; rw [List.takeWhile_cons, if_neg (by simp [hc])]; rfl
  have h1 : bl (b ++ c :: t) = b.length := bl_app b _ hb h0
  exact paramsR_some (x := ([], 0)) (prm_end (pstep_stop (by rw [h1]; unfold semi; simp [h59])))
theorem params_nil : paramsR [] = ([], 0, 0) := paramsR_some (x := ([], 0)) (prm_end (pstep_stop (by unfold semi; simp)))
theorem pgo_fits : ∀ (f : Nat) (r : List UInt8) (y : List Prm × Nat), pgo f r = some y → y.2 ≤ r.length
  | 0, r, y, h => by cases h
  | f + 1, r, y, h => by
    rw [pgo] at h
    cases hp : pstep r with
    | none => rw [hp] at h; cases h
    | some o =>
      rw [hp] at h
      cases o with
      | none => cases h; exact Nat.zero_le _
      | some x =>
        have hx := pstep_le r x hp
        obtain ⟨z, hz, e⟩ := Option.map_eq_some_iff.1 h
        have ih := pgo_fits f _ z hz
        rw [List.length_drop] at ih
        cases e
        show x.1 + z.2 ≤ _
        omega
theorem params_fit (l : List UInt8) : 0 ≤ (paramsR l).2.1 ∧ (paramsR l).2.1 ≤ (l.length : Int) := by
  unfold paramsR
  cases h : prm l with
  | none => simp
  | some y => have := pgo_fits _ _ _ h; simp; omega
theorem all_take (p : UInt8 → Bool) (l : List UInt8) : (l.takeWhile p).all p = true := by
  induction l with
  | nil => rfl
  | cons c t ih =>
    rw [List.takeWhile_cons]
    split
    · rename_i h; rw [List.all_cons, h, ih]; rfl
    · rfl

theorem ite_same {α : Type} {P Q : Prop} [Decidable P] [Decidable Q] (h : P ↔ Q) (a b : α) : (if P then a else b) = if Q then a else b := by
  by_cases hp : P
  · rw [if_pos hp, if_pos (h.1 hp)]
  · rw [if_neg hp, if_neg (fun q => hp (h.2 q))]

theorem prg_dis (l : List UInt8) : prgR l = disR l := by
  have hh := trim_head l
  have hl := trim_last l
  unfold prgR disR
  dsimp only
  generalize trim l = s at *
  have hT : (s.takeWhile tokB).all tokB = true := all_take _ _
  have hB : ((s.dropWhile tokB).takeWhile blankB).all blankB = true := all_take _ _
  have es : s = s.takeWhile tokB ++ ((s.dropWhile tokB).takeWhile blankB ++ (s.dropWhile tokB).dropWhile blankB) := by rw [List.takeWhile_append_dropWhile, List.takeWhile_append_dropWhile]
  have hr := dropWhile_head blankB (s.dropWhile tokB)
  have hr2 := dropWhile_head tokB s
  have ek : tokLen s = (s.takeWhile tokB).length := rfl
  rw [ek]
  have edr : s.drop (s.takeWhile tokB).length = (s.dropWhile tokB).takeWhile blankB ++ (s.dropWhile tokB).dropWhile blankB := by
    conv => lhs; arg 2; rw [es]
    rw [List.drop_append, List.drop_of_length_le (by omega)]; simp
  have etk : s.take (s.takeWhile tokB).length = s.takeWhile tokB := by
    conv => lhs; arg 2; rw [es]
    rw [List.take_append, List.take_of_length_le (by omega)]; simp
  have hr2' : ∀ x t, (s.dropWhile tokB).takeWhile blankB ++ (s.dropWhile tokB).dropWhile blankB = x :: t → tokB x = false := fun x t e => hr2 x t (by rw [← e, List.takeWhile_append_dropWhile])
  rw [edr, etk]
  clear edr etk ek hr2
  generalize s.takeWhile tokB = T at *
  generalize (s.dropWhile tokB).takeWhile blankB = b at *
  generalize (s.dropWhile tokB).dropWhile blankB = r at *
  have hTn : ∀ c ∈ T, blankB c = false ∧ c ≠ 59 := fun c hc => tok_not c (List.all_eq_true.1 hT c hc)
  have hBn : ∀ c ∈ b, tokB c = false ∧ c ≠ 59 := fun c hc => blank_not c (List.all_eq_true.1 hB c hc)
  subst es
  cases r with
  | nil =>
    have hb0 : b = [] := by
      rcases List.eq_nil_or_concat b with h | ⟨b', x, h⟩
      · exact h
      · have := hl x (T ++ b') (by rw [h, List.append_nil, List.concat_eq_append, List.append_assoc])
        have h2 := List.all_eq_true.1 hB x (by rw [h]; simp)
        rw [this] at h2; cases h2
    subst hb0
    have hA : Tg.cutA 59 (T ++ ([] ++ [])) = T := by rw [cutA_skip 59 T _ (fun c hc => (hTn c hc).2)]; simp [Tg.cutA]
    have hW : trim T = T := by
      unfold trim
      have e1 : trimL T = T := by
        cases T with
        | nil => rfl
        | cons x t => exact trimL_none x t (hTn x (by simp)).1
      rw [e1]
      have := trimR_none T (fun x hx => (hTn x hx).1) [] rfl
      rwa [List.append_nil] at this
    rw [hA, hW, isTok_eq T hT]
    have hd : (T ++ (([] : List UInt8) ++ [])).drop T.length = [] := by simp
    rw [hd, show ([] : List UInt8) ++ [] = [] from rfl, params_nil]
    simp [lowOk, noTwo]
  | cons c t =>
    have hcb := hr c t rfl
    by_cases h59 : c = 59
    · subst h59
      have hA : Tg.cutA 59 (T ++ (b ++ 59 :: t)) = T ++ b := by
        rw [cutA_skip 59 T _ (fun c hc => (hTn c hc).2), cutA_skip 59 b _ (fun c hc => (hBn c hc).2)]; simp [Tg.cutA]
      have hW : trim (T ++ b) = T := by
        unfold trim
        cases T with
        | nil =>
          cases b with
          | nil => rfl
          | cons x b' =>
            have := hh x (b' ++ 59 :: t) rfl
            have h2 := List.all_eq_true.1 hB x (by simp)
            rw [this] at h2; cases h2
        | cons x T' =>
          rw [List.cons_append, trimL_none x _ (hTn x (by simp)).1, ← List.cons_append]
          exact trimR_none _ (fun y hy => (hTn y hy).1) b hB
      have hd : (T ++ (b ++ 59 :: t)).drop (T ++ b).length = 59 :: t := by rw [← List.append_assoc, List.drop_left]
      rw [hA, hW, hd, isTok_eq T hT]
      obtain ⟨p1, p2, p3⟩ := params_blanks b t hB
      have hf := params_fit (59 :: t)
      rw [p1, p2]
      generalize hP : paramsR (59 :: t) = P at *
      obtain ⟨P1, P2, P3⟩ := P
      dsimp only at *
      have hTl : (T = []) ↔ T.length = 0 := List.length_eq_zero_iff.symm
      by_cases hz : P3 = 0
      · have p3' := p3 hz
        rw [p3']
        refine ite_same ?_ _ _
        simp only [List.length_append, List.length_cons, decide_eq_false_iff_not, ne_eq, Decidable.not_not] at hf ⊢
        constructor
        · rintro (h | h | h | h)
          · exact .inr (.inl h)
          · exact .inr (.inr (.inl (by omega)))
          · exact .inl (hTl.1 h)
          · exact .inr (.inr (.inr h))
        · rintro (h | h | h | h)
          · exact .inr (.inr (.inl (hTl.2 h)))
          · exact .inl h
          · exact .inr (.inl (by omega))
          · exact .inr (.inr (.inr h))
      · rw [if_pos (.inl hz), if_pos (.inr (.inl hz))]
    · have hq := params_other b t c hB hcb h59
      rw [hq]
      rw [if_pos (c := T.length = 0 ∨ _) (.inr (.inr (.inl (by simp; omega))))]
      have hA : ∃ X, Tg.cutA 59 (T ++ (b ++ c :: t)) = T ++ (b ++ c :: X) := by
        refine ⟨Tg.cutA 59 t, ?_⟩
        rw [cutA_skip 59 T _ (fun c hc => (hTn c hc).2), cutA_skip 59 b _ (fun c hc => (hBn c hc).2)]
        have : Tg.cutA 59 (c :: t) = c :: Tg.cutA 59 t := by simp [Tg.cutA, h59]
        rw [this]
      obtain ⟨X, hA⟩ := hA
      rw [hA]
      have hno : isTok (trim (T ++ (b ++ c :: X))) = false := by
        have hL : trimL (T ++ (b ++ c :: X)) = T ++ (b ++ c :: X) := by
          cases T with
          | nil =>
            cases b with
            | nil => exact trimL_none c X hcb
            | cons x b' =>
              have := hh x (b' ++ c :: t) rfl
              have h2 := List.all_eq_true.1 hB x (by simp)
              rw [this] at h2; cases h2
          | cons x T' => rw [List.cons_append]; exact trimL_none x _ (hTn x (by simp)).1
        unfold trim
        rw [hL]
        obtain ⟨X', e⟩ := trimR_keep (T ++ b) c X hcb
        rw [← List.append_assoc, e]
        cases b with
        | nil => exact isTok_no _ c (by simp) (hr2' c t rfl)
        | cons x b' => exact isTok_no _ x (by simp) (hBn x (by simp)).1
      rw [if_pos (.inr (.inr (.inl hno)))]

end Ds
end Go.Proofs.YtndglpjkmgcdpaaGreatDoor
