/- Several texts as one. -/
import Derived.Test.YtnhkkemphjblhaaDoorMgO
import Derived.Deep.RegionWith
/-
  isFrontOf; likingOfLanguage.
-/
set_option linter.unusedVariables false
set_option linter.unusedSimpArgs false
namespace Go.Proofs.YtnhkkemphjblhaaDoor
open Go.RowKit Go.Shelf
namespace Ac
open Oc Tg

/-- Is a word a language, or what stands ahead of some - in it? -/
def frnt (word lang : List UInt8) : Bool := decide (word.length ≤ lang.length) && (decide (lowS (str word) = lowS (str (lang.take word.length))) && (decide (word.length = lang.length) || decide (lang.getD word.length 0 = 45)))
theorem ext_str (l : List UInt8) (n : Nat) : (str l).extract 0 n = str (l.take n) := by
  apply ByteArray.ext
  apply Array.toList_inj.1 
  show ((str l).extract 0 n).data.toList = _
  rw [ByteArray.data_extract]
  simp [str]

set_option maxRecDepth 100000 in
set_option maxHeartbeats 2000000 in
theorem isFrontOf_any (x l : List UInt8) (hx : x.length ≤ 1048576) (hl : l.length ≤ 1048576) (w : World) :
    Calls Tryd.prog 55 #[.string (str x), .string (str l)] w fun e w' => e = .returned (.bool (frnt x l)) ∧ Below w.heap.size w w' := by
  have zx : (str x).size = x.length := str_size x
  have zl : (str l).size = l.length := str_size l
  have HS : Hid (∀ W, Calls Tryd.prog 51 #[.string (str x), .string (str (l.take x.length))] W fun e w' => e = .returned (.bool (decide (lowS (str x) = lowS (str (l.take x.length))))) ∧ Below (World.heap W).size W w') := fun W => Same_any _ _ (by rw [str_size]; unfold maxLen; omega) (by rw [str_size, List.length_take]; unfold maxLen; omega) W
  have HF : Hid (frnt x l = (decide (x.length ≤ l.length) && (decide (lowS (str x) = lowS (str (l.take x.length))) && (decide (x.length = l.length) || decide (l.getD x.length 0 = 45))))) := (rfl : _ = _)
  have he := ext_str l x.length
  have HB : Hid (∀ h : x.length < l.length, ((((str l)[x.length]'(by rw [zl]; exact h)).toNat : Nat) : Int) = ((l.getD x.length 0).toNat : Int)) := fun h => by
    rw [byt_at (str l) x.length (by rw [zl]; exact h)]
    unfold byt
    rw [str_list]
  generalize frnt x l = V at *
  generalize decide (lowS (str x) = lowS (str (l.take x.length))) = R at *
  generalize str (l.take x.length) = T at *
  by_cases h1 : x.length ≤ l.length
  · have g1 : ¬ (l.length : Int) < (x.length : Int) := by omega
    rw [decide_eq_true h1, Bool.true_and] at HF
    by_cases h2 : x.length = l.length
    · rw [decide_eq_true h2, Bool.true_or, Bool.and_true] at HF
      have g2 : ((x.length : Int) == (l.length : Int)) = true := by simp; omega
      clear h2
      generalize str x = X at *
      generalize hL : str l = L at *
      clear HB
      go_enter Tryd.func55, Tryd.ntmps55
      go_wp2_with fail
      refine (HS.out _).mono ?_
      rintro e w2 ⟨rfl, hb2⟩
      have HB2 : Hid (Below w.heap.size w w2) := hb2
      clear hb2
      cases R
      all_goals
        go_wp2
        go_ret
        exact ⟨by rw [HF.out]; rfl, HB2.out⟩
    · have g2 : ((x.length : Int) == (l.length : Int)) = false := by simp; omega
      have h3 : x.length < l.length := by omega
      have hb := HB.out h3
      have hc := byt_bd (str l) x.length
      rw [decide_eq_false h2, Bool.false_or] at HF
      have hd : ((((l.getD x.length 0).toNat : Nat) : Int) == 45) = decide (l.getD x.length 0 = 45) := by
        rw [Bool.eq_iff_iff, beq_iff_eq, decide_eq_true_iff]
        constructor
        · intro h
          apply UInt8.toNat_inj.1
          have : (45 : UInt8).toNat = 45 := rfl
          omega
        · intro h
          rw [h]; rfl
      rw [← hd] at HF
      have hz : x.length < (str l).size := by omega
      generalize ((l.getD x.length 0).toNat : Int) = C at *
      generalize str x = X at *
      generalize hL : str l = L at *
      clear HB hd
      go_enter Tryd.func55, Tryd.ntmps55
      go_wp2_with fail
      refine (HS.out _).mono ?_
      rintro e w2 ⟨rfl, hb2⟩
      have HB2 : Hid (Below w.heap.size w w2) := hb2
      clear hb2
      cases R with
      | false =>
        go_wp2
        go_ret
        exact ⟨by rw [HF.out]; rfl, HB2.out⟩
      | true =>
        rw [Bool.true_and] at HF
        go_wp2
        go_ret
        exact ⟨by rw [HF.out]; rfl, HB2.out⟩
  · have g1 : (l.length : Int) < (x.length : Int) := by omega
    rw [decide_eq_false h1, Bool.false_and] at HF
    generalize str x = X at *
    generalize str l = L at *
    go_enter Tryd.func55, Tryd.ntmps55
    go_wp2
    go_ret
    exact ⟨by rw [HF.out]; rfl, Below.refl _ _⟩

/-- The longest word ahead, and its quality. -/
def stp (l : List UInt8) (a : Nat × Int) (p : Wt) : Nat × Int := if decide (a.1 < p.1.length) && frnt p.1 l then (p.1.length, p.2) else a
def lng (l : List UInt8) (t : List Wt) : Nat → Nat × Int
  | 0 => (0, 0)
  | k + 1 => stp l (lng l t k) (nthW t k)
def likL (t : List Wt) (l : List UInt8) : Int := if isL l then (if (lng l t t.length).1 = 0 then (qof t [42]).getD 0 else (lng l t t.length).2) else 0
def likLL (t : List Wt) (l : List UInt8) : Int := if t.length = 0 then 1000 else likL t l
theorem lng_bd (l : List UInt8) {t : List Wt} {M : Nat} (h : EachW M t) : ∀ k, k ≤ t.length → (lng l t k).1 ≤ M ∧ inI (lng l t k).2
  | 0, _ => by unfold lng inI; exact ⟨Nat.zero_le _, by omega⟩
  | k + 1, hk => by
    have ih := lng_bd l h k (by omega)
    have h2 := h.at (k := k) (by omega)
    show (stp l (lng l t k) (nthW t k)).1 ≤ M ∧ inI (stp l (lng l t k) (nthW t k)).2
    unfold stp
    split
    · exact h2
    · exact ih

set_option maxRecDepth 100000 in
set_option maxHeartbeats 4000000 in
theorem likingOfLanguage_any (v : Value) (t : List Wt) (l : List UInt8) (hs : l.length ≤ 1048576) (hM : EachW 1048576 t) (hl : t.length ≤ 16777216) (w : World) (hrd : RdW v t w) (hw : ML w) :
    Calls Tryd.prog 37 #[v, .string (str l)] w fun e w' => e = .returned (.int .i64 (likL t l)) ∧ Below w.heap.size w w' := by
  have HR : Hid (RdW v t w) := hrd
  have HM : Hid (EachW 1048576 t) := hM
  have HI : Hid (Calls Tryd.prog 54 #[.string (str l)] w fun e w' => e = .returned (.bool (isL l)) ∧ Below w.heap.size w w') := isLanguage_any l hs w hw
  have HQ : Hid (∀ W, Below w.heap.size w W → Calls Tryd.prog 53 #[v, .string (str [42])] W fun e w' => e = .returned (.tuple #[.int .i64 ((qof t [42]).getD 0), .bool (qof t [42]).isSome]) ∧ Below (World.heap W).size W w') := fun W b => qualityOf_any v t [42] (by decide) hM hl W (hrd.below b)
  have HL : Hid (likL t l = if isL l then (if (lng l t t.length).1 = 0 then (qof t [42]).getD 0 else (lng l t t.length).2) else 0) := (rfl : _ = _)
  obtain ⟨a, c, rfl, _⟩ := hrd
  generalize likL t l = V at *
  cases hIL : isL l with
  | false =>
    rw [hIL] at HI HL
    go_enter Tryd.func37, Tryd.ntmps37
    go_wp2_with fail
    refine HI.out.mono ?_
    rintro e w1 ⟨rfl, hb1⟩
    have HB1 : Hid (Below w.heap.size w w1) := hb1
    clear hb1
    go_wp2
    go_ret
    exact ⟨by rw [HL.out]; rfl, HB1.out⟩
  | true =>
    rw [hIL, if_pos rfl] at HL
    rw [hIL] at HI
    clear hM
    go_enter Tryd.func37, Tryd.ntmps37
    go_wp2_with fail
    refine HI.out.mono ?_
    rintro e w1 ⟨rfl, hb1⟩
    have HB1 : Hid (Below w.heap.size w w1) := hb1
    clear hb1
    go_wp2
    go_loopw [5, 6, 14] (fun x q i wr => ∃ (k : Nat) (X : ByteArray), k ≤ t.length ∧ x = .string X ∧ Hid (X.size = (lng l t k).1) ∧ q = .int .i64 (lng l t k).2 ∧ i = .int .i64 k ∧ Hid (Below w.heap.size w wr)) (fun _ _ i _ => t.length - (intOf i).toNat)
    case atStart => exact ⟨0, _, Nat.zero_le _, rfl, (rfl : _ = _), rfl, rfl, HB1⟩
    case round =>
      obtain ⟨k, X, hk, rfl, hX, rfl, rfl, hbl⟩ := hrel
      have hsz := hbl.out.size
      by_cases hlt : k < t.length
      · obtain ⟨a', c', e', hcs⟩ := HR.out.below hbl.out
        injection e' with e1 _ e2
        subst e1 e2
        rcases hcs with h | ⟨g, o, rfl, hlc, hcell⟩
        · rw [h] at hlt; simp at hlt
        obtain ⟨p0, p1⟩ := hcell k hlt
        have hEk := HM.out.at hlt
        have hBd := lng_bd l HM.out k hk
        have hb1 : Below wr.heap.size wr (wr.alloc (.cells #[.string (str (nthW t k).1), .int .i64 (nthW t k).2] 66)) := (Below.refl _ wr).alloc (Nat.le_refl _) _
        have HBa : Hid (Below w.heap.size w (wr.alloc (.cells #[.string (str (nthW t k).1), .int .i64 (nthW t k).2] 66))) := bel_trans hbl.out hb1
        have HC : Hid (∀ W, Calls Tryd.prog 55 #[.string (str (nthW t k).1), .string (str l)] W fun e w' => e = .returned (.bool (frnt (nthW t k).1 l)) ∧ Below (World.heap W).size W w') := fun W => isFrontOf_any _ _ hEk.1 hs W
        have zN : (str (nthW t k).1).size = (nthW t k).1.length := str_size _
        have TT : (lng l t k).1 < (nthW t k).1.length → frnt (nthW t k).1 l = true → Hid (lng l t (k + 1) = ((nthW t k).1.length, (nthW t k).2)) := fun h h' => (by show stp l (lng l t k) (nthW t k) = _; unfold stp; rw [decide_eq_true h, h']; rfl : lng l t (k + 1) = _)
        have F1 : ¬ (lng l t k).1 < (nthW t k).1.length → Hid (lng l t (k + 1) = lng l t k) := fun h => (by show stp l (lng l t k) (nthW t k) = _; unfold stp; rw [decide_eq_false h]; rfl : lng l t (k + 1) = _)
        have F2 : frnt (nthW t k).1 l = false → Hid (lng l t (k + 1) = lng l t k) := fun h => (by show stp l (lng l t k) (nthW t k) = _; unfold stp; rw [h, Bool.and_false]; rfl : lng l t (k + 1) = _)
        have hXz : X.size = (lng l t k).1 := hX.out
        clear hcell hb1 hX
        generalize hA : lng l t k = A at *
        obtain ⟨an, aq⟩ := A
        have HA : Hid (lng l t k = (an, aq)) := hA
        clear hA
        dsimp only at *
        generalize frnt (nthW t k).1 l = b at HC TT F2
        generalize str (nthW t k).1 = N at *
        generalize (nthW t k).1.length = nn at *
        generalize (nthW t k).2 = q at *
        by_cases hgt : an < nn
        · have hgi : (an : Int) < (nn : Int) := by omega
          cases b with
          | true =>
            have tt := TT hgt rfl
            clear TT F1 F2
            go_wp2_with fail
            refine (HC.out _).mono ?_
            rintro e w2 ⟨rfl, hb2⟩
            have c0 : w2.cell? ⟨wr.heap.size, 0, none⟩ = some (.string N) := by rw [hb2.cell (by simp)]; simp
            have c1 : w2.cell? ⟨wr.heap.size, 1, none⟩ = some (.int .i64 q) := by rw [hb2.cell (by simp)]; simp
            have HB2 : Hid (Below w.heap.size w w2) := bel_trans HBa.out hb2
            clear hb2
            go_wp2_with fail
            go_quiet (fail)
            go_wp2
            go_roundw
            case rel => exact ⟨k + 1, N, by omega, rfl, (by rw [tt.out]; exact zN : _ = _), by rw [tt.out], by go_num, below_drewN HB2.out _⟩
            case measure => simp [intOf]; omega
          | false =>
            have ff := F2 rfl
            clear TT F1 F2
            go_wp2_with fail
            refine (HC.out _).mono ?_
            rintro e w2 ⟨rfl, hb2⟩
            have HB2 : Hid (Below w.heap.size w w2) := bel_trans HBa.out hb2
            clear hb2
            go_wp2
            go_roundw
            case rel => exact ⟨k + 1, X, by omega, rfl, (by rw [ff.out]; exact hXz : _ = _), by rw [ff.out], by go_num, HB2⟩
            case measure => simp [intOf]; omega
        · have hgi : ¬ (an : Int) < (nn : Int) := by omega
          have ff := F1 hgt
          clear TT F1 F2
          go_wp2
          go_roundw
          case rel => exact ⟨k + 1, X, by omega, rfl, (by rw [ff.out]; exact hXz : _ = _), by rw [ff.out], by go_num, HBa⟩
          case measure => simp [intOf]; omega
      · obtain rfl : k = t.length := by omega
        have hXz := hX.out
        have hne : X.toList.isEmpty = decide ((lng l t t.length).1 = 0) := by
          rw [← hXz]
          by_cases h0 : X.size = 0
          · have : X = ⟨#[]⟩ := by
              apply ByteArray.ext
              exact Array.eq_empty_of_size_eq_zero h0
            subst this
            decide +kernel
          · rw [decide_eq_false h0]
            have : (X.toList == []) = false := by
              rw [show (X.toList == []) = (X.toList == (⟨#[]⟩ : ByteArray).toList) by rw [show (⟨#[]⟩ : ByteArray).toList = [] by decide +kernel], eq_toList, decide_eq_false_iff_not]
              intro h
              rw [h] at h0
              exact h0 rfl
            rw [List.isEmpty_eq_false_iff]
            intro h
            rw [h] at this
            simp at this
        clear hX hXz
        generalize hA : lng l t t.length = A at *
        obtain ⟨an, aq⟩ := A
        clear hA
        dsimp only at *
        by_cases h0 : an = 0
        · rw [decide_eq_true h0] at hne
          rw [if_pos h0] at HL
          go_wp2_with fail
          rw [show (⟨#[42]⟩ : ByteArray) = str [42] from rfl]
          refine (HQ.out _ hbl.out).mono ?_
          rintro e w2 ⟨rfl, hb2⟩
          have HB2 : Hid (Below w.heap.size w w2) := bel_trans hbl.out hb2
          clear hb2
          generalize (qof t [42]).getD 0 = Y at *
          generalize (qof t [42]).isSome = Z at *
          go_wp2
          go_ret
          exact ⟨by rw [HL.out]; rfl, HB2.out⟩
        · rw [decide_eq_false h0] at hne
          rw [if_neg h0] at HL
          go_wp2
          go_ret
          exact ⟨by rw [HL.out]; rfl, hbl.out⟩

end Ac
end Go.Proofs.YtnhkkemphjblhaaDoor

/-
  The choice of a coding: the closure, best, ChooseCoding.
-/
set_option linter.unusedVariables false
set_option linter.unusedSimpArgs false
namespace Go.Proofs.YtnhkkemphjblhaaDoor
open Go.RowKit Go.Shelf
namespace Ac
open Oc Tg

theorem new1 (w : World) (v : Value) (T : TypeId) : (w.alloc (.cells #[v] T)).cell? ⟨w.heap.size, 0, none⟩ = some v := by simp
theorem past1 (w : World) (o : Obj) {p : Addr} {v : Value} (h : w.cell? p = some v) : (w.alloc o).cell? p = some v :=
  (((Below.refl _ w).alloc (Nat.le_refl _) o).cell (World.block_lt_of_cell? _ _ h)).trans h
theorem qof_in {t : List Wt} {M : Nat} (h : EachW M t) (s : List UInt8) : inI ((qof t s).getD 0) := by
  unfold qof
  cases hq : t.find? (alW s) with
  | none => show inI 0; unfold inI; omega
  | some p => exact (h p (List.mem_of_find?_eq_some hq)).2
theorem likC_in {t : List Wt} {M : Nat} (h : EachW M t) (s : List UInt8) : inI (likC t s) := by
  unfold likC
  have h1 := qof_in h s
  have h2 := qof_in h [42]
  cases hq : qof t s with
  | some q => rw [hq] at h1; exact h1
  | none =>
    cases hq2 : qof t [42] with
    | some q => rw [hq2] at h2; exact h2
    | none => show inI (if _ then _ else _); split <;> (unfold inI; omega)
theorem likG_in {t : List Wt} {M : Nat} (h : EachW M t) (g : Bool) (s : List UInt8) : inI (likG g t s) := by
  unfold likG
  split
  · exact likC_in h s
  · unfold inI; omega

set_option maxRecDepth 100000 in
set_option maxHeartbeats 2000000 in
theorem cod1_any (v u : Value) (t : List Wt) (os : List (List UInt8)) (g : Bool) (B0 B1 B2 k : Nat) (hk : k < os.length) (hos : ∀ x ∈ os, x.length ≤ 1048576) (ho : os.length ≤ 16777216) (hM : EachW 1048576 t) (hl : t.length ≤ 16777216) (w : World)
    (c0 : w.cell? ⟨B0, 0, none⟩ = some v) (c1 : w.cell? ⟨B1, 0, none⟩ = some (.bool g)) (c2 : w.cell? ⟨B2, 0, none⟩ = some u) (hv : RdW v t w) (hu : RdS u os w) :
    Calls Tryd.prog 31 #[.int .i64 (k : Int), .pointer (some ⟨B1, 0, none⟩), .pointer (some ⟨B0, 0, none⟩), .pointer (some ⟨B2, 0, none⟩)] w fun e w' => e = .returned (.int .i64 (likG g t (os.getD k []))) ∧ Below w.heap.size w w' := by
  cases g with
  | false =>
    go_enter Tryd.func31, Tryd.ntmps31
    go_wp2
    go_ret
    exact ⟨rfl, Below.refl _ _⟩
  | true =>
    have hx : (os.getD k []).length ≤ 1048576 := by
      refine hos _ ?_
      rw [List.getD_eq_getElem?_getD, List.getElem?_eq_getElem hk]
      exact List.getElem_mem hk
    have HL : Hid (likG true t (os.getD k []) = likC t (os.getD k [])) := (rfl : _ = _)
    have HC : Hid (∀ W, Below w.heap.size w W → Calls Tryd.prog 32 #[v, .string (str (os.getD k []))] W fun e w' => e = .returned (.int .i64 (likC t (os.getD k []))) ∧ Below (World.heap W).size W w') := fun W b => likingOfCoding_any v t _ hx hM hl W (hv.below b)
    obtain ⟨a, c, rfl, hu⟩ := hu
    rcases hu with h | ⟨g2, o2, rfl, hc, hcell⟩
    · rw [h] at hk; simp at hk
    have d := hcell k hk
    clear hcell hx hos hM
    have hki : (k : Int) < (os.length : Int) := by omega
    obtain ⟨av, cv, rfl, _⟩ := hv
    generalize str (os.getD k []) = X at *
    generalize likC t (os.getD k []) = Y at *
    have HBd : Hid (Below w.heap.size w w.drew) := (Below.refl _ _).drew
    have e0 : w.drew.cell? ⟨B0, 0, none⟩ = some (.slice av t.length cv) := c0
    have e2 : w.drew.cell? ⟨B2, 0, none⟩ = some (.slice (some ⟨g2, o2, none⟩) os.length c) := c2
    have ed : w.drew.cell? ⟨g2, o2 + k, none⟩ = some (.string X) := d
    go_enter Tryd.func31, Tryd.ntmps31
    go_wp2_with fail
    go_region_held3 (fun W => W.cell? ⟨B0, 0, none⟩ = some (.slice av t.length cv) ∧ W.cell? ⟨B2, 0, none⟩ = some (.slice (some ⟨g2, o2, none⟩) os.length c) ∧ W.cell? ⟨g2, o2 + k, none⟩ = some (.string X)) (first | exact ⟨e0, e2, ed⟩ | exact ⟨m0, m2, md⟩ | go_keep) (first | (go_at_call 32; refine (HC.out _ HBd.out).mono ?_; rintro e w6 ⟨rfl, hb6⟩; have m0 : w6.cell? ⟨B0, 0, none⟩ = some (.slice av t.length cv) := (hb6.cell (p := ⟨B0, 0, none⟩) (World.block_lt_of_cell? _ _ e0)).trans e0; have m2 : w6.cell? ⟨B2, 0, none⟩ = some (.slice (some ⟨g2, o2, none⟩) os.length c) := (hb6.cell (p := ⟨B2, 0, none⟩) (World.block_lt_of_cell? _ _ e2)).trans e2; have md : w6.cell? ⟨g2, o2 + k, none⟩ = some (.string X) := (hb6.cell (p := ⟨g2, o2 + k, none⟩) (World.block_lt_of_cell? _ _ ed)).trans ed; have HB7 : Hid (Below w.heap.size w w6) := bel_trans HBd.out hb6))
    go_wp2
    go_ret
    exact ⟨by rw [HL.out]; rfl, HB7.out⟩

set_option maxRecDepth 100000 in
set_option maxHeartbeats 2000000 in
theorem best_cod (n : Nat) (f : Nat → Int) (hf : ∀ k, inI (f k)) (hn : n ≤ 16777216) (B0 B1 B2 : Nat) (w : World)
    (HC : Hid (∀ (k : Nat) (W : World), k < n → Below w.heap.size w W → Calls Tryd.prog 31 #[.int .i64 (k : Int), .pointer (some ⟨B0, 0, none⟩), .pointer (some ⟨B1, 0, none⟩), .pointer (some ⟨B2, 0, none⟩)] W fun e w' => e = .returned (.int .i64 (f k)) ∧ Below (World.heap W).size W w')) :
    Calls Tryd.prog 33 #[.agg #[.int .i64 (n : Int), .func (.func 31) #[] #[.pointer (some ⟨B0, 0, none⟩), .pointer (some ⟨B1, 0, none⟩), .pointer (some ⟨B2, 0, none⟩)]]] w fun e w' => e = .returned (.int .i64 (bst f n).1) ∧ Below w.heap.size w w' := by
  obtain ⟨w1, hw1⟩ : ∃ w1, w1 = w.alloc (.cells #[.int .i64 (n : Int), .func (.func 31) #[] #[.pointer (some ⟨B0, 0, none⟩), .pointer (some ⟨B1, 0, none⟩), .pointer (some ⟨B2, 0, none⟩)]] 71) := ⟨_, rfl⟩
  have hrow : w1.heap[w.heap.size]? = some (.cells #[.int .i64 (n : Int), .func (.func 31) #[] #[.pointer (some ⟨B0, 0, none⟩), .pointer (some ⟨B1, 0, none⟩), .pointer (some ⟨B2, 0, none⟩)]] 71 (0, 0)) := by rw [hw1]; exact heap_alloc_new w _
  have HB1 : Hid (Below w.heap.size w w1) := by show Below _ _ _; rw [hw1]; exact (Below.refl _ w).alloc (Nat.le_refl _) _
  have hz1 : w.heap.size < w1.heap.size := by rw [hw1]; simp
  have c0 := Lib.cell_of_heap hrow 0
  have c1 := Lib.cell_of_heap hrow 1
  simp only [List.getElem?_toArray, List.getElem?_cons_zero, List.getElem?_cons_succ] at c0 c1
  have HC1 : Hid (w1.cell? ⟨w.heap.size, 1, none⟩ = some (.func (.func 31) #[] #[.pointer (some ⟨B0, 0, none⟩), .pointer (some ⟨B1, 0, none⟩), .pointer (some ⟨B2, 0, none⟩)])) := c1
  have HF : Hid (∀ k, inI (f k)) := hf
  clear c1 hrow hf
  go_enter Tryd.func33, Tryd.ntmps33
  go_wp2_with fail
  rw [← hw1]
  clear hw1
  go_wp2_with fail
  go_loopw [3, 4, 9] (fun b m i wr => ∃ k : Nat, k ≤ n ∧ b = .int .i64 (bst f k).1 ∧ m = .int .i64 (bst f k).2 ∧ i = .int .i64 k ∧ Hid (Below w1.heap.size w1 wr)) (fun _ _ i _ => n - (intOf i).toNat)
  case atStart => exact ⟨0, Nat.zero_le _, rfl, rfl, rfl, Below.refl _ _⟩
  case round =>
    obtain ⟨k, hk, rfl, rfl, rfl, hbl⟩ := hrel
    have HBw : Hid (Below w.heap.size w wr) := bel_trans HB1.out hbl.out
    clear c0
    by_cases hlt : k < n
    · have d1 : wr.cell? ⟨w.heap.size, 1, none⟩ = some (.func (.func 31) #[] #[.pointer (some ⟨B0, 0, none⟩), .pointer (some ⟨B1, 0, none⟩), .pointer (some ⟨B2, 0, none⟩)]) := (hbl.out.cell (p := ⟨w.heap.size, 1, none⟩) hz1).trans HC1.out
      have YY : (bst f k).2 < f k → Hid (bst f (k + 1) = ((k : Int), f k)) := fun h => bst_yes h
      have NN : f k ≤ (bst f k).2 → Hid (bst f (k + 1) = bst f k) := fun h => bst_no (Int.not_lt.2 h)
      generalize hX : f k = X at YY NN
      generalize hM : (bst f k).2 = M at *
      have HX : Hid (f k = X) := hX
      have HM : Hid ((bst f k).2 = M) := hM
      clear hX hM
      go_wp2_with fail
      refine (HC.out k wr hlt HBw.out).mono ?_
      rintro e w2 ⟨rfl, hb2⟩
      rw [HX.out]
      have HB2 : Hid (Below w1.heap.size w1 w2) := bel_trans hbl.out hb2
      clear hb2
      by_cases hq : M < X
      · have yy := YY hq
        clear YY NN
        go_wp2
        go_roundw
        case rel => exact ⟨k + 1, by omega, by rw [yy.out], by rw [yy.out], by go_num, HB2⟩
        case measure => simp [intOf]; omega
      · have nn := NN (Int.not_lt.1 hq)
        clear YY NN
        go_wp2
        go_roundw
        case rel => exact ⟨k + 1, by omega, by rw [nn.out], by rw [nn.out, HM.out], by go_num, HB2⟩
        case measure => simp [intOf]; omega
    · obtain rfl : k = n := by omega
      go_wp2
      go_ret
      exact ⟨rfl, HBw.out⟩

set_option maxRecDepth 100000 in
set_option maxHeartbeats 2000000 in
theorem ChooseCoding_any (v u : Value) (t : List Wt) (os : List (List UInt8)) (g : Bool) (hos : ∀ x ∈ os, x.length ≤ 1048576) (ho : os.length ≤ 16777216) (hM : EachW 1048576 t) (hl : t.length ≤ 16777216) (w : World) (hv : RdW v t w) (hu : RdS u os w) :
    Calls Tryd.prog 15 #[v, .bool g, u] w fun e w' => e = .returned (.int .i64 (bst (fun k => likG g t (os.getD k [])) os.length).1) ∧ Below w.heap.size w w' := by
  obtain ⟨w3, hw3⟩ : ∃ w3, w3 = ((w.alloc (.cells #[v] 39)).alloc (.cells #[.bool g] 4)).alloc (.cells #[u] 40) := ⟨_, rfl⟩
  have hb3 : Below w.heap.size w w3 := by rw [hw3]; exact (((Below.refl _ w).alloc (Nat.le_refl _) _).alloc (by simp) _).alloc (by simp; omega) _
  have c0 : w3.cell? ⟨w.heap.size, 0, none⟩ = some v := by rw [hw3]; exact past1 _ _ (past1 _ _ (new1 w v _))
  have c1 : w3.cell? ⟨w.heap.size + 1, 0, none⟩ = some (.bool g) := by rw [hw3]; have h := new1 (w.alloc (.cells #[v] 39)) (.bool g) 4; rw [World.size_alloc] at h; exact past1 _ _ h
  have c2 : w3.cell? ⟨w.heap.size + 1 + 1, 0, none⟩ = some u := by rw [hw3]; have h := new1 ((w.alloc (.cells #[v] 39)).alloc (.cells #[.bool g] 4)) u 40; rw [World.size_alloc, World.size_alloc] at h; exact h
  have HB : Hid (Calls Tryd.prog 33 #[.agg #[.int .i64 (os.length : Int), .func (.func 31) #[] #[.pointer (some ⟨w.heap.size + 1, 0, none⟩), .pointer (some ⟨w.heap.size, 0, none⟩), .pointer (some ⟨w.heap.size + 1 + 1, 0, none⟩)]]] w3 fun e w' => e = .returned (.int .i64 (bst (fun k => likG g t (os.getD k [])) os.length).1) ∧ Below w3.heap.size w3 w') :=
    best_cod os.length (fun k => likG g t (os.getD k [])) (fun k => likG_in hM g _) ho (w.heap.size + 1) w.heap.size (w.heap.size + 1 + 1) w3 (fun k W hk b => cod1_any v u t os g w.heap.size (w.heap.size + 1) (w.heap.size + 1 + 1) k hk hos ho hM hl W ((b.cell (World.block_lt_of_cell? _ _ c0)).trans c0) ((b.cell (World.block_lt_of_cell? _ _ c1)).trans c1) ((b.cell (World.block_lt_of_cell? _ _ c2)).trans c2) (hv.below (bel_trans hb3 b)) (hu.below (bel_trans hb3 b)))
  have HB3 : Hid (Below w.heap.size w w3) := hb3
  obtain ⟨a, c, rfl, _⟩ := hu
  obtain ⟨av, cv, rfl, _⟩ := hv
  generalize (bst (fun k => likG g t (os.getD k [])) os.length).1 = R at *
  clear hos hM hb3
  subst hw3
  go_enter Tryd.func15, Tryd.ntmps15
  go_wp2_with fail
  refine HB.out.mono ?_
  rintro e w2 ⟨rfl, hb2⟩
  have HB2 : Hid (Below w.heap.size w w2) := bel_trans HB3.out hb2
  clear hb2
  go_wp2
  go_ret
  exact ⟨rfl, HB2.out⟩

end Ac
end Go.Proofs.YtnhkkemphjblhaaDoor

/-
  The choice of a language: the closure, best, ChooseLanguage.
-/
set_option linter.unusedVariables false
set_option linter.unusedSimpArgs false
namespace Go.Proofs.YtnhkkemphjblhaaDoor
open Go.RowKit Go.Shelf
namespace Ac
open Oc Tg

theorem likL_in {t : List Wt} {M : Nat} (h : EachW M t) (l : List UInt8) : inI (likL t l) := by
  unfold likL
  split
  · split
    · exact qof_in h _
    · exact (lng_bd l h t.length (Nat.le_refl _)).2
  · unfold inI; omega
theorem likLL_in {t : List Wt} {M : Nat} (h : EachW M t) (l : List UInt8) : inI (likLL t l) := by
  unfold likLL
  split
  · unfold inI; omega
  · exact likL_in h l

set_option maxRecDepth 100000 in
set_option maxHeartbeats 2000000 in
theorem lan1_any (v u : Value) (t : List Wt) (os : List (List UInt8)) (B0 B2 k : Nat) (hk : k < os.length) (hos : ∀ x ∈ os, x.length ≤ 1048576) (ho : os.length ≤ 16777216) (hM : EachW 1048576 t) (hl : t.length ≤ 16777216) (w : World) (hw : ML w)
    (c0 : w.cell? ⟨B0, 0, none⟩ = some v) (c2 : w.cell? ⟨B2, 0, none⟩ = some u) (hv : RdW v t w) (hu : RdS u os w) :
    Calls Tryd.prog 36 #[.int .i64 (k : Int), .pointer (some ⟨B0, 0, none⟩), .pointer (some ⟨B2, 0, none⟩)] w fun e w' => e = .returned (.int .i64 (likLL t (os.getD k []))) ∧ Below w.heap.size w w' := by
  by_cases h0 : t.length = 0
  · have HL : Hid (likLL t (os.getD k []) = 1000) := (if_pos h0 : likLL t (os.getD k []) = 1000)
    obtain ⟨av, cv, rfl, _⟩ := hv
    rw [h0] at c0
    go_enter Tryd.func36, Tryd.ntmps36
    go_wp2
    go_ret
    exact ⟨by rw [HL.out]; rfl, Below.refl _ _⟩
  · have hx : (os.getD k []).length ≤ 1048576 := by
      refine hos _ ?_
      rw [List.getD_eq_getElem?_getD, List.getElem?_eq_getElem hk]
      exact List.getElem_mem hk
    have HL : Hid (likLL t (os.getD k []) = likL t (os.getD k [])) := (if_neg h0 : likLL t (os.getD k []) = _)
    have HC : Hid (∀ W, Below w.heap.size w W → Calls Tryd.prog 37 #[v, .string (str (os.getD k []))] W fun e w' => e = .returned (.int .i64 (likL t (os.getD k []))) ∧ Below (World.heap W).size W w') := fun W b => likingOfLanguage_any v t _ hx hM hl W (hv.below b) (hw.below b)
    obtain ⟨a, c, rfl, hu⟩ := hu
    rcases hu with h | ⟨g2, o2, rfl, hc, hcell⟩
    · rw [h] at hk; simp at hk
    have d := hcell k hk
    clear hcell hx hos hM hw
    have hki : (k : Int) < (os.length : Int) := by omega
    obtain ⟨av, cv, rfl, _⟩ := hv
    generalize str (os.getD k []) = X at *
    generalize likL t (os.getD k []) = Y at *
    have hti : ((t.length : Int) == 0) = false := beq_eq_false_iff_ne.2 (by omega)
    have HBd : Hid (Below w.heap.size w w.drew) := (Below.refl _ _).drew
    have e0 : w.drew.cell? ⟨B0, 0, none⟩ = some (.slice av t.length cv) := c0
    have e2 : w.drew.cell? ⟨B2, 0, none⟩ = some (.slice (some ⟨g2, o2, none⟩) os.length c) := c2
    have ed : w.drew.cell? ⟨g2, o2 + k, none⟩ = some (.string X) := d
    go_enter Tryd.func36, Tryd.ntmps36
    go_wp2_with fail
    go_region_held3 (fun W => W.cell? ⟨B0, 0, none⟩ = some (.slice av t.length cv) ∧ W.cell? ⟨B2, 0, none⟩ = some (.slice (some ⟨g2, o2, none⟩) os.length c) ∧ W.cell? ⟨g2, o2 + k, none⟩ = some (.string X)) (first | exact ⟨e0, e2, ed⟩ | exact ⟨m0, m2, md⟩ | go_keep) (first | (go_at_call 37; refine (HC.out _ HBd.out).mono ?_; rintro e w6 ⟨rfl, hb6⟩; have m0 : w6.cell? ⟨B0, 0, none⟩ = some (.slice av t.length cv) := (hb6.cell (p := ⟨B0, 0, none⟩) (World.block_lt_of_cell? _ _ e0)).trans e0; have m2 : w6.cell? ⟨B2, 0, none⟩ = some (.slice (some ⟨g2, o2, none⟩) os.length c) := (hb6.cell (p := ⟨B2, 0, none⟩) (World.block_lt_of_cell? _ _ e2)).trans e2; have md : w6.cell? ⟨g2, o2 + k, none⟩ = some (.string X) := (hb6.cell (p := ⟨g2, o2 + k, none⟩) (World.block_lt_of_cell? _ _ ed)).trans ed; have HB7 : Hid (Below w.heap.size w w6) := bel_trans HBd.out hb6))
    go_wp2
    go_ret
    exact ⟨by rw [HL.out]; rfl, HB7.out⟩

set_option maxRecDepth 100000 in
set_option maxHeartbeats 2000000 in
theorem best_lan (n : Nat) (f : Nat → Int) (hf : ∀ k, inI (f k)) (hn : n ≤ 16777216) (B0 B2 : Nat) (w : World)
    (HC : Hid (∀ (k : Nat) (W : World), k < n → Below w.heap.size w W → Calls Tryd.prog 36 #[.int .i64 (k : Int), .pointer (some ⟨B0, 0, none⟩), .pointer (some ⟨B2, 0, none⟩)] W fun e w' => e = .returned (.int .i64 (f k)) ∧ Below (World.heap W).size W w')) :
    Calls Tryd.prog 33 #[.agg #[.int .i64 (n : Int), .func (.func 36) #[] #[.pointer (some ⟨B0, 0, none⟩), .pointer (some ⟨B2, 0, none⟩)]]] w fun e w' => e = .returned (.int .i64 (bst f n).1) ∧ Below w.heap.size w w' := by
  obtain ⟨w1, hw1⟩ : ∃ w1, w1 = w.alloc (.cells #[.int .i64 (n : Int), .func (.func 36) #[] #[.pointer (some ⟨B0, 0, none⟩), .pointer (some ⟨B2, 0, none⟩)]] 71) := ⟨_, rfl⟩
  have hrow : w1.heap[w.heap.size]? = some (.cells #[.int .i64 (n : Int), .func (.func 36) #[] #[.pointer (some ⟨B0, 0, none⟩), .pointer (some ⟨B2, 0, none⟩)]] 71 (0, 0)) := by rw [hw1]; exact heap_alloc_new w _
  have HB1 : Hid (Below w.heap.size w w1) := by show Below _ _ _; rw [hw1]; exact (Below.refl _ w).alloc (Nat.le_refl _) _
  have hz1 : w.heap.size < w1.heap.size := by rw [hw1]; simp
  have c0 := Lib.cell_of_heap hrow 0
  have c1 := Lib.cell_of_heap hrow 1
  simp only [List.getElem?_toArray, List.getElem?_cons_zero, List.getElem?_cons_succ] at c0 c1
  have HC1 : Hid (w1.cell? ⟨w.heap.size, 1, none⟩ = some (.func (.func 36) #[] #[.pointer (some ⟨B0, 0, none⟩), .pointer (some ⟨B2, 0, none⟩)])) := c1
  have HF : Hid (∀ k, inI (f k)) := hf
  clear c1 hrow hf
  go_enter Tryd.func33, Tryd.ntmps33
  go_wp2_with fail
  rw [← hw1]
  clear hw1
  go_wp2_with fail
  go_loopw [3, 4, 9] (fun b m i wr => ∃ k : Nat, k ≤ n ∧ b = .int .i64 (bst f k).1 ∧ m = .int .i64 (bst f k).2 ∧ i = .int .i64 k ∧ Hid (Below w1.heap.size w1 wr)) (fun _ _ i _ => n - (intOf i).toNat)
  case atStart => exact ⟨0, Nat.zero_le _, rfl, rfl, rfl, Below.refl _ _⟩
  case round =>
    obtain ⟨k, hk, rfl, rfl, rfl, hbl⟩ := hrel
    have HBw : Hid (Below w.heap.size w wr) := bel_trans HB1.out hbl.out
    clear c0
    by_cases hlt : k < n
    · have d1 : wr.cell? ⟨w.heap.size, 1, none⟩ = some (.func (.func 36) #[] #[.pointer (some ⟨B0, 0, none⟩), .pointer (some ⟨B2, 0, none⟩)]) := (hbl.out.cell (p := ⟨w.heap.size, 1, none⟩) hz1).trans HC1.out
      have YY : (bst f k).2 < f k → Hid (bst f (k + 1) = ((k : Int), f k)) := fun h => bst_yes h
      have NN : f k ≤ (bst f k).2 → Hid (bst f (k + 1) = bst f k) := fun h => bst_no (Int.not_lt.2 h)
      generalize hX : f k = X at YY NN
      generalize hM : (bst f k).2 = M at *
      have HX : Hid (f k = X) := hX
      have HM : Hid ((bst f k).2 = M) := hM
      clear hX hM
      go_wp2_with fail
      refine (HC.out k wr hlt HBw.out).mono ?_
      rintro e w2 ⟨rfl, hb2⟩
      rw [HX.out]
      have HB2 : Hid (Below w1.heap.size w1 w2) := bel_trans hbl.out hb2
      clear hb2
      by_cases hq : M < X
      · have yy := YY hq
        clear YY NN
        go_wp2
        go_roundw
        case rel => exact ⟨k + 1, by omega, by rw [yy.out], by rw [yy.out], by go_num, HB2⟩
        case measure => simp [intOf]; omega
      · have nn := NN (Int.not_lt.1 hq)
        clear YY NN
        go_wp2
        go_roundw
        case rel => exact ⟨k + 1, by omega, by rw [nn.out], by rw [nn.out, HM.out], by go_num, HB2⟩
        case measure => simp [intOf]; omega
    · obtain rfl : k = n := by omega
      go_wp2
      go_ret
      exact ⟨rfl, HBw.out⟩

set_option maxRecDepth 100000 in
set_option maxHeartbeats 2000000 in
theorem ChooseLanguage_any (v u : Value) (t : List Wt) (os : List (List UInt8)) (hos : ∀ x ∈ os, x.length ≤ 1048576) (ho : os.length ≤ 16777216) (hM : EachW 1048576 t) (hl : t.length ≤ 16777216) (w : World) (hw : ML w) (hv : RdW v t w) (hu : RdS u os w) :
    Calls Tryd.prog 18 #[v, u] w fun e w' => e = .returned (.int .i64 (bst (fun k => likLL t (os.getD k [])) os.length).1) ∧ Below w.heap.size w w' := by
  obtain ⟨w3, hw3⟩ : ∃ w3, w3 = (w.alloc (.cells #[v] 39)).alloc (.cells #[u] 40) := ⟨_, rfl⟩
  have hb3 : Below w.heap.size w w3 := by rw [hw3]; exact ((Below.refl _ w).alloc (Nat.le_refl _) _).alloc (by simp) _
  have c0 : w3.cell? ⟨w.heap.size, 0, none⟩ = some v := by rw [hw3]; exact past1 _ _ (new1 w v _)
  have c2 : w3.cell? ⟨w.heap.size + 1, 0, none⟩ = some u := by rw [hw3]; have h := new1 (w.alloc (.cells #[v] 39)) u 40; rw [World.size_alloc] at h; exact h
  have HB : Hid (Calls Tryd.prog 33 #[.agg #[.int .i64 (os.length : Int), .func (.func 36) #[] #[.pointer (some ⟨w.heap.size, 0, none⟩), .pointer (some ⟨w.heap.size + 1, 0, none⟩)]]] w3 fun e w' => e = .returned (.int .i64 (bst (fun k => likLL t (os.getD k [])) os.length).1) ∧ Below w3.heap.size w3 w') :=
    best_lan os.length (fun k => likLL t (os.getD k [])) (fun k => likLL_in hM _) ho w.heap.size (w.heap.size + 1) w3 (fun k W hk b => lan1_any v u t os w.heap.size (w.heap.size + 1) k hk hos ho hM hl W (hw.below (bel_trans hb3 b)) ((b.cell (World.block_lt_of_cell? _ _ c0)).trans c0) ((b.cell (World.block_lt_of_cell? _ _ c2)).trans c2) (hv.below (bel_trans hb3 b)) (hu.below (bel_trans hb3 b)))
  have HB3 : Hid (Below w.heap.size w w3) := hb3
  obtain ⟨a, c, rfl, _⟩ := hu
  obtain ⟨av, cv, rfl, _⟩ := hv
  generalize (bst (fun k => likLL t (os.getD k [])) os.length).1 = R at *
  clear hos hM hb3
  subst hw3
  go_enter Tryd.func18, Tryd.ntmps18
  go_wp2_with fail
  refine HB.out.mono ?_
  rintro e w2 ⟨rfl, hb2⟩
  have HB2 : Hid (Below w.heap.size w w2) := bel_trans HB3.out hb2
  clear hb2
  go_wp2
  go_ret
  exact ⟨rfl, HB2.out⟩

end Ac
end Go.Proofs.YtnhkkemphjblhaaDoor
