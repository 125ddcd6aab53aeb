/- Several texts as one. -/
import Derived.Test.YtnhkkemphjblhaaDoorMgQ
import Derived.Test.YtnhkkemphjblhaaDoorMgN
import Derived.Deep.RegionLaw
import Derived.Laws.AppendOwnNone
/-
  The document's met, LanguageLiking.
-/
set_option linter.unusedVariables false
set_option linter.unusedSimpArgs false
namespace Go.Proofs.YtnhkkemphjblhaaDoor
open Go.RowKit Go.Shelf
namespace Ac
open Oc Tg

theorem lowI_45 (c : Int) : decide (lowI c = 45) = decide (c = 45) := by
  rw [Bool.eq_iff_iff, decide_eq_true_iff, decide_eq_true_iff]
  unfold lowI
  split <;> omega
theorem lowS_take (l : List UInt8) (m : Nat) : lowS (str (l.take m)) = (lowS (str l)).extract 0 m := by
  unfold lowS
  rw [ext_str, str_list, str_list]
  unfold lower
  rw [List.map_take]
theorem frnt_eq {x l : List UInt8} (h : x.length = l.length) : frnt x l = decide (lowS (str l) = lowS (str x)) := by
  unfold frnt
  rw [decide_eq_true (by omega : x.length ≤ l.length), decide_eq_true h, Bool.true_and, Bool.true_or, Bool.and_true, h, List.take_length, Bool.eq_iff_iff, decide_eq_true_iff, decide_eq_true_iff]
  exact eq_comm
theorem frnt_lt {x l : List UInt8} (h : x.length < l.length) : frnt x l = (decide ((lowS (str l)).extract 0 x.length = lowS (str x)) && decide (byt (lowS (str l)) x.length = 45)) := by
  unfold frnt
  rw [decide_eq_true (by omega : x.length ≤ l.length), decide_eq_false (by omega : ¬ x.length = l.length), Bool.true_and, Bool.false_or, lowS_take, lowS_byt (str l) _ (by rw [str_size]; exact h), lowI_45]
  congr 1
  · rw [Bool.eq_iff_iff, decide_eq_true_iff, decide_eq_true_iff]
    exact eq_comm
  · unfold byt
    rw [str_list, Bool.eq_iff_iff, decide_eq_true_iff, decide_eq_true_iff]
    constructor
    · intro e; rw [e]; rfl
    · intro e
      apply UInt8.toNat_inj.1
      have : (45 : UInt8).toNat = 45 := rfl
      omega
theorem frnt_gt {x l : List UInt8} (h : l.length < x.length) : frnt x l = false := by
  unfold frnt
  rw [decide_eq_false (by omega : ¬ x.length ≤ l.length)]
  rfl

set_option maxRecDepth 100000 in
set_option maxHeartbeats 2000000 in
theorem rmet_any (x l : List UInt8) (hx : x.length ≤ 1048576) (hl : l.length ≤ 1048576) (w : World) :
    Calls Tryd.prog 57 #[.string (str l), .string (str x)] w fun e w' => e = .returned (.bool (frnt x l)) ∧ Below w.heap.size w w' := by
  have HL : Hid (∀ W, Calls Tryd.prog 48 #[.string (str l)] W fun e w' => e = .returned (.string (lowS (str l))) ∧ Below (World.heap W).size W w') := fun W => rLower_any _ (by rw [str_size]; unfold maxLen; omega) W
  have HX : Hid (∀ W, Calls Tryd.prog 48 #[.string (str x)] W fun e w' => e = .returned (.string (lowS (str x))) ∧ Below (World.heap W).size W w') := fun W => rLower_any _ (by rw [str_size]; unfold maxLen; omega) W
  have zA : (lowS (str l)).size = l.length := by rw [lowS_size, str_size]
  have zB : (lowS (str x)).size = x.length := by rw [lowS_size, str_size]
  have hne : x.length ≠ l.length → Hid (lowS (str l) ≠ lowS (str x)) := fun h e => h (by rw [← zA, ← zB, e])
  rcases Nat.lt_trichotomy x.length l.length with h | h | h
  · have HV : Hid (_ = _) := frnt_lt h
    have HE : Hid (lowS (str l) ≠ lowS (str x)) := hne (by omega)
    have hb : ∀ h : x.length < (lowS (str l)).size, ((((lowS (str l))[x.length]).toNat : Nat) : Int) = byt (lowS (str l)) x.length := fun h => byt_at _ _ h
    have hbd := byt_bd (lowS (str l)) x.length
    generalize frnt x l = V at *
    generalize byt (lowS (str l)) x.length = C at *
    generalize lowS (str l) = A at *
    generalize lowS (str x) = B at *
    have e0 : (A.toList == B.toList) = false := by rw [eq_toList]; exact decide_eq_false HE.out
    have e1 : ((A.extract 0 x.length).toList == B.toList) = decide (A.extract 0 x.length = B) := eq_toList _ _
    have e2 : (C == 45) = decide (C = 45) := rfl
    have hz : x.length < A.size := by omega
    have hb := hb hz
    have hi : (x.length : Int) < (l.length : Int) := by omega
    have hi2 : (x.length : Int) ≤ (l.length : Int) := by omega
    generalize decide (A.extract 0 x.length = B) = E1 at *
    generalize str l = L at *
    generalize str x = X at *
    clear hne HE
    go_enter Tryd.func57, Tryd.ntmps57
    go_wp2_with fail
    refine (HL.out _).mono ?_
    rintro e w1 ⟨rfl, hb1⟩
    have HB1 : Hid (Below w.heap.size w w1) := hb1
    clear hb1
    go_wp2_with fail
    refine (HX.out _).mono ?_
    rintro e w2 ⟨rfl, hb2⟩
    have HB2 : Hid (Below w.heap.size w w2) := bel_trans HB1.out hb2
    clear hb2
    cases E1 with
    | false =>
      go_wp2
      go_ret
      exact ⟨by rw [HV.out]; rfl, HB2.out⟩
    | true =>
      rw [Bool.true_and] at HV
      rw [← e2] at HV
      go_wp2
      go_ret
      exact ⟨by rw [HV.out]; rfl, HB2.out⟩
  · have HV : Hid (_ = _) := frnt_eq h
    generalize frnt x l = V at *
    generalize lowS (str l) = A at *
    generalize lowS (str x) = B at *
    have e0 : (A.toList == B.toList) = decide (A = B) := eq_toList _ _
    have hi : ¬ (x.length : Int) < (l.length : Int) := by omega
    generalize decide (A = B) = E at *
    generalize str l = L at *
    generalize str x = X at *
    clear hne h
    go_enter Tryd.func57, Tryd.ntmps57
    go_wp2_with fail
    refine (HL.out _).mono ?_
    rintro e w1 ⟨rfl, hb1⟩
    have HB1 : Hid (Below w.heap.size w w1) := hb1
    clear hb1
    go_wp2_with fail
    refine (HX.out _).mono ?_
    rintro e w2 ⟨rfl, hb2⟩
    have HB2 : Hid (Below w.heap.size w w2) := bel_trans HB1.out hb2
    clear hb2
    cases E
    all_goals
      go_wp2
      go_ret
      exact ⟨by rw [HV.out]; rfl, HB2.out⟩
  · have HV : Hid (frnt x l = false) := frnt_gt h
    have HE : Hid (lowS (str l) ≠ lowS (str x)) := hne (by omega)
    generalize frnt x l = V at *
    generalize lowS (str l) = A at *
    generalize lowS (str x) = B at *
    have e0 : (A.toList == B.toList) = false := by rw [eq_toList]; exact decide_eq_false HE.out
    have hi : ¬ (x.length : Int) < (l.length : Int) := by omega
    generalize str l = L at *
    generalize str x = X at *
    clear hne HE
    go_enter Tryd.func57, Tryd.ntmps57
    go_wp2_with fail
    refine (HL.out _).mono ?_
    rintro e w1 ⟨rfl, hb1⟩
    have HB1 : Hid (Below w.heap.size w w1) := hb1
    clear hb1
    go_wp2_with fail
    refine (HX.out _).mono ?_
    rintro e w2 ⟨rfl, hb2⟩
    have HB2 : Hid (Below w.heap.size w w2) := bel_trans HB1.out hb2
    clear hb2
    go_wp2
    go_ret
    exact ⟨by rw [HV.out]; rfl, HB2.out⟩

theorem frnt_nil {l : List UInt8} (h : isL l = true) : frnt [] l = false := by
  cases l with
  | nil => exact absurd h (by decide)
  | cons c r =>
    have hc : c ≠ 45 := fun e => by subst e; unfold isL at h; rw [lgo_dash] at h; simp at h
    unfold frnt
    simp [hc]
theorem frnt_star {l : List UInt8} (h : isL l = true) : frnt [42] l = false := by
  cases hf : frnt [42] l with
  | false => rfl
  | true =>
    exfalso
    unfold frnt at hf
    simp only [Bool.and_eq_true, decide_eq_true_eq] at hf
    have h1 := low_star hf.2.1.symm
    cases l with
    | nil => simp at h1
    | cons c r =>
      have hc : c = 42 := by simpa using h1
      subst hc
      unfold isL at h
      rw [lgo_else _ _ _ _ (by decide)] at h
      have : ltB (!true) 42 = false := by decide
      rw [this] at h
      simp at h

def bestI (n : Nat) : Int := if n = 0 then -1 else (n : Int)

set_option maxRecDepth 100000 in
set_option maxHeartbeats 4000000 in
theorem rLanguageLiking_any (v : Value) (t : List Wt) (l : List UInt8) (hs : l.length ≤ 1048576) (hM : EachW 1048576 t) (hl : t.length ≤ 16777216) (w : World) (hrd : RdW v t w) :
    Calls Tryd.prog 38 #[v, .string (str l)] w fun e w' => e = .returned (.int .i64 (likLL t l)) ∧ Below w.heap.size w w' := by
  have HR : Hid (RdW v t w) := hrd
  have HM : Hid (EachW 1048576 t) := hM
  have HI : Hid (Calls Tryd.prog 56 #[.string (str l)] w fun e w' => e = .returned (.bool (isL l)) ∧ Below w.heap.size w w') := rIsLanguage_any l hs w
  obtain ⟨a, c, rfl, _⟩ := hrd
  clear hM
  by_cases h0 : t.length = 0
  · have HL : Hid (likLL t l = 1000) := (if_pos h0 : likLL t l = 1000)
    have h0i : ((t.length : Int) == 0) = true := by simp; exact List.length_eq_zero_iff.1 h0
    go_enter Tryd.func38, Tryd.ntmps38
    go_wp2
    go_ret
    exact ⟨by rw [HL.out]; rfl, Below.refl _ _⟩
  have h0i : ((t.length : Int) == 0) = false := beq_eq_false_iff_ne.2 (by omega)
  have HL : Hid (likLL t l = if isL l then (if (lng l t t.length).1 = 0 then (qof t [42]).getD 0 else (lng l t t.length).2) else 0) := (by unfold likLL; rw [if_neg h0]; rfl : _ = _)
  generalize likLL t l = V at *
  generalize hT : t.length = tn at *
  have HT : Hid (t.length = tn) := hT
  clear hT
  cases hIL : isL l with
  | false =>
    rw [hIL] at HI HL
    go_enter Tryd.func38, Tryd.ntmps38
    go_wp2_with fail
    refine HI.out.mono ?_
    rintro e w1 ⟨rfl, hb1⟩
    have HB1 : Hid (Below w.heap.size w w1) := hb1
    clear hb1
    go_wp2
    go_ret
    exact ⟨by rw [HL.out]; rfl, HB1.out⟩
  | true =>
    have HN0 : Hid (frnt [] l = false) := frnt_nil hIL
    have HN1 : Hid (frnt [42] l = false) := frnt_star hIL
    rw [hIL, if_pos rfl] at HL
    rw [hIL] at HI
    go_enter Tryd.func38, Tryd.ntmps38
    go_wp2_with fail
    refine HI.out.mono ?_
    rintro e w1 ⟨rfl, hb1⟩
    have HB1 : Hid (Below w.heap.size w w1) := hb1
    clear hb1
    go_wp2
    go_loopw [5, 6, 7] (fun x q i wr => ∃ (k : Nat), k ≤ tn ∧ x = .int .i64 (bestI (lng l t k).1) ∧ q = .int .i64 (lng l t k).2 ∧ i = .int .i64 k ∧ Hid (Below w.heap.size w wr)) (fun _ _ i _ => tn - (intOf i).toNat)
    case atStart => exact ⟨0, Nat.zero_le _, rfl, rfl, rfl, HB1⟩
    case round =>
      obtain ⟨k, hk, rfl, rfl, rfl, hbl⟩ := hrel
      have hsz := hbl.out.size
      by_cases hlt : k < tn
      · have hltT : k < t.length := by rw [HT.out]; exact hlt
        obtain ⟨a', c', e', hcs⟩ := HR.out.below hbl.out
        rw [HT.out] at e'
        injection e' with e1 _ e2
        subst e1 e2
        rcases hcs with h | ⟨g, o, rfl, hlc, hcell⟩
        · rw [h] at hltT; simp at hltT
        obtain ⟨p0, p1⟩ := hcell k hltT
        rw [HT.out] at hlc
        have hEk := HM.out.at hltT
        have hBd := lng_bd l HM.out k (by omega)
        have HC : Hid (∀ W, Calls Tryd.prog 57 #[.string (str l), .string (str (nthW t k).1)] W fun e w' => e = .returned (.bool (frnt (nthW t k).1 l)) ∧ Below (World.heap W).size W w') := fun W => rmet_any _ _ hEk.1 hs W
        have zN : (str (nthW t k).1).size = (nthW t k).1.length := str_size _
        have TT : (lng l t k).1 < (nthW t k).1.length → frnt (nthW t k).1 l = true → Hid (lng l t (k + 1) = ((nthW t k).1.length, (nthW t k).2)) := fun h h' => (by show stp l (lng l t k) (nthW t k) = _; unfold stp; rw [decide_eq_true h, h']; rfl : lng l t (k + 1) = _)
        have F1 : ¬ (lng l t k).1 < (nthW t k).1.length → Hid (lng l t (k + 1) = lng l t k) := fun h => (by show stp l (lng l t k) (nthW t k) = _; unfold stp; rw [decide_eq_false h]; rfl : lng l t (k + 1) = _)
        have F2 : frnt (nthW t k).1 l = false → Hid (lng l t (k + 1) = lng l t k) := fun h => (by show stp l (lng l t k) (nthW t k) = _; unfold stp; rw [h, Bool.and_false]; rfl : lng l t (k + 1) = _)
        have hps : frnt (nthW t k).1 l = true → 0 < (nthW t k).1.length := fun h => by
          cases hx : (nthW t k).1 with
          | nil => rw [hx, HN0.out] at h; cases h
          | cons _ _ => simp
        have hst : (alW [42] (nthW t k)) = true → frnt (nthW t k).1 l = false := fun h => by
          have : (nthW t k).1 = [42] := low_star (of_decide_eq_true h)
          rw [this]
          exact HN1.out
        rw [al_star] at hst
        clear hcell hEk
        generalize hA : lng l t k = A at *
        obtain ⟨an, aq⟩ := A
        have HA : Hid (lng l t k = (an, aq)) := hA
        clear hA
        dsimp only at *
        generalize frnt (nthW t k).1 l = b at HC TT F2 hps hst
        generalize str (nthW t k).1 = N at *
        generalize (nthW t k).1.length = nn at *
        generalize (nthW t k).2 = q at *
        cases hstar : (N.toList == [42]) with
        | true =>
          have ff := F2 (hst hstar)
          have hstar' : (N.toList != [42]) = false := by show (!(N.toList == [42])) = false; rw [hstar]; rfl
          clear TT F1 F2 hst hps
          go_wp2
          go_roundw
          case rel => exact ⟨k + 1, by omega, by rw [ff.out], by rw [ff.out], by go_num, hbl⟩
          case measure => simp [intOf]; omega
        | false =>
          have hstar' : (N.toList != [42]) = true := by show (!(N.toList == [42])) = true; rw [hstar]; rfl
          clear hst
          cases b with
          | false =>
            have ff := F2 rfl
            clear TT F1 F2 hps
            go_wp2_with fail
            refine (HC.out _).mono ?_
            rintro e w2 ⟨rfl, hb2⟩
            have HB2 : Hid (Below w.heap.size w w2) := bel_trans hbl.out hb2
            clear hb2
            go_wp2
            go_roundw
            case rel => exact ⟨k + 1, by omega, by rw [ff.out], by rw [ff.out], by go_num, HB2⟩
            case measure => simp [intOf]; omega
          | true =>
            have hpos := hps rfl
            clear hps
            by_cases hgt : an < nn
            · have hgi : bestI an < (nn : Int) := by unfold bestI; split <;> omega
              have tt := TT hgt rfl
              have hbn : bestI nn = (nn : Int) := by unfold bestI; rw [if_neg (by omega)]
              clear TT F1 F2
              go_wp2_with fail
              refine (HC.out _).mono ?_
              rintro e w2 ⟨rfl, hb2⟩
              have d0 : w2.cell? ⟨g, o + k * 2, none⟩ = some (.string N) := (hb2.cell (p := ⟨g, o + k * 2, none⟩) (World.block_lt_of_cell? _ _ p0)).trans p0
              have d1 : w2.cell? ⟨g, o + k * 2 + 1, none⟩ = some (.int .i64 q) := (hb2.cell (p := ⟨g, o + k * 2 + 1, none⟩) (World.block_lt_of_cell? _ _ p1)).trans p1
              have HB2 : Hid (Below w.heap.size w w2) := bel_trans hbl.out hb2
              clear hb2 p0 p1
              go_wp2_with fail
              go_quiet (fail)
              go_wp2
              go_roundw
              case rel => exact ⟨k + 1, by omega, by rw [tt.out, hbn], by rw [tt.out], by go_num, below_drewN HB2.out _⟩
              case measure => simp [intOf]; omega
            · have hgi : ¬ bestI an < (nn : Int) := by unfold bestI; split <;> omega
              have ff := F1 hgt
              clear TT F1 F2
              go_wp2_with fail
              refine (HC.out _).mono ?_
              rintro e w2 ⟨rfl, hb2⟩
              have d0 : w2.cell? ⟨g, o + k * 2, none⟩ = some (.string N) := (hb2.cell (p := ⟨g, o + k * 2, none⟩) (World.block_lt_of_cell? _ _ p0)).trans p0
              have HB2 : Hid (Below w.heap.size w w2) := bel_trans hbl.out hb2
              clear hb2 p0 p1
              go_wp2
              go_roundw
              case rel => exact ⟨k + 1, by omega, by rw [ff.out], by rw [ff.out], by go_num, HB2⟩
              case measure => simp [intOf]; omega
      · obtain rfl : k = tn := by omega
        generalize hA : lng l t k = A at *
        obtain ⟨an, aq⟩ := A
        clear hA
        dsimp only at *
        by_cases hz : an = 0
        · rw [if_pos hz] at HL
          have hbi : ¬ (0 : Int) ≤ bestI an := by unfold bestI; rw [if_pos hz]; omega
          obtain ⟨wo, rfl⟩ : ∃ wo, wo = wr := ⟨_, rfl⟩
          go_wp2
          go_loopw [8] (fun i wr => ∃ j : Nat, j ≤ k ∧ i = .int .i64 j ∧ Hid (∀ m, m < j → alW [42] (nthW t m) = false) ∧ wr = wo) (fun i _ => k - (intOf i).toNat)
          case atStart => exact ⟨0, Nat.zero_le _, rfl, (fun j hj => absurd hj (Nat.not_lt_zero _) : ∀ j, j < 0 → _), rfl⟩
          case round =>
            obtain ⟨j, hj, rfl, hall, rfl⟩ := hrel
            by_cases hlt2 : j < k
            · have hltT : j < t.length := by rw [HT.out]; exact hlt2
              obtain ⟨a', c', e', hcs⟩ := HR.out.below hbl.out
              rw [HT.out] at e'
              injection e' with e1 _ e2
              subst e1 e2
              rcases hcs with h | ⟨g, o, rfl, hlc, hcell⟩
              · rw [h] at hltT; simp at hltT
              obtain ⟨p0, p1⟩ := hcell j hltT
              rw [HT.out] at hlc
              have TT : alW [42] (nthW t j) = true → Hid (V = (nthW t j).2) := fun h => (by rw [HL.out, qof_at hltT h hall.out]; rfl : V = _)
              have FF : alW [42] (nthW t j) = false → Hid (∀ m, m < j + 1 → alW [42] (nthW t m) = false) := fun h => snoc_false (f := fun m => alW [42] (nthW t m)) hall.out h
              rw [al_star] at TT FF
              clear hcell hall
              generalize str (nthW t j).1 = N at *
              generalize (nthW t j).2 = q at *
              cases hb : (N.toList == [42]) with
              | true =>
                have tt := TT hb
                clear TT FF
                go_wp2
                go_ret
                refine ⟨?_, hbl.out⟩
                rw [tt.out]
                rfl
              | false =>
                have ff := FF hb
                clear TT FF
                go_wp2
                go_roundw
                case rel => exact ⟨j + 1, by omega, by go_num, ff, by simp⟩
                case measure => simp [intOf]; omega
            · obtain rfl : j = k := by omega
              have HN : Hid (V = 0) := (by rw [HL.out, qof_none (by rw [HT.out]; exact hall.out)]; rfl : V = 0)
              clear hall
              go_wp2
              go_ret
              refine ⟨?_, hbl.out⟩
              rw [HN.out]
              rfl
        · rw [if_neg hz] at HL
          have hbi : (0 : Int) ≤ bestI an := by unfold bestI; rw [if_neg hz]; omega
          go_wp2
          go_ret
          refine ⟨?_, hbl.out⟩
          rw [HL.out]
          rfl

end Ac
end Go.Proofs.YtnhkkemphjblhaaDoor

/-
  The document's choice of a language.
-/
set_option linter.unusedVariables false
set_option linter.unusedSimpArgs false
namespace Go.Proofs.YtnhkkemphjblhaaDoor
open Go.RowKit Go.Shelf
namespace Ac
open Oc Tg

set_option maxRecDepth 100000 in
set_option maxHeartbeats 4000000 in
theorem rChooseLanguage_any (v u : Value) (t : List Wt) (os : List (List UInt8)) (hos : ∀ x ∈ os, x.length ≤ 1048576) (ho : os.length ≤ 16777216) (hM : EachW 1048576 t) (hl : t.length ≤ 16777216) (w : World) (hv : RdW v t w) (hu : RdS u os w) :
    Calls Tryd.prog 19 #[v, u] w fun e w' => e = .returned (.int .i64 (bst (fun k => likLL t (os.getD k [])) os.length).1) ∧ Below w.heap.size w w' := by
  have HV : Hid (RdW v t w) := hv
  have HU : Hid (RdS u os w) := hu
  have HC : Hid (∀ W x, x ∈ os → Below w.heap.size w W → Calls Tryd.prog 38 #[v, .string (str x)] W fun e w' => e = .returned (.int .i64 (likLL t x)) ∧ Below (World.heap W).size W w') := fun W x hx b => rLanguageLiking_any v t x (hos x hx) hM hl W (hv.below b)
  have HE : Hid (bst (fun j => (os.map (likLL t)).getD j 0) os.length = bst (fun k => likLL t (os.getD k [])) os.length) := bst_map os (likLL t) os.length (Nat.le_refl _)
  obtain ⟨a, c, rfl, _⟩ := hu
  obtain ⟨av, cv, rfl, _⟩ := hv
  clear hos hM
  go_enter Tryd.func19, Tryd.ntmps19
  go_wp2
  go_loopw [5, 6] (fun ov i wr => ∃ k : Nat, k ≤ os.length ∧ i = .int .i64 k ∧ Hid (OwnI w.heap.size ov ((os.take k).map (likLL t)) wr) ∧ Hid (Below w.heap.size w wr)) (fun _ i _ => os.length - (intOf i).toNat)
  case atStart => exact ⟨0, Nat.zero_le _, rfl, ownI_empty w (Nat.le_refl _), (Below.refl _ w).alloc (Nat.le_refl _) _⟩
  case round =>
    obtain ⟨k, hk, rfl, hown, hbl⟩ := hrel
    have hsz := hbl.out.size
    by_cases hlt : k < os.length
    · obtain ⟨a', c', e', hcs⟩ := HU.out.below hbl.out
      injection e' with e1 _ e2
      subst e1 e2
      rcases hcs with h | ⟨g2, o2, rfl, hlc, hcell⟩
      · rw [h] at hlt; simp at hlt
      have d := hcell k hlt
      have hin : os.getD k [] ∈ os := by
        rw [List.getD_eq_getElem?_getD, List.getElem?_eq_getElem hlt]
        exact List.getElem_mem hlt
      have HK := HC.out wr _ hin hbl.out
      have HK' : Hid (Calls _ _ _ _ _) := HK
      have HT : Hid (_ = _) := qs_take (likLL t) hlt
      have hlk : ((os.take k).map (likLL t)).length + 1 ≤ 2147483648 := by rw [List.length_map, List.length_take]; omega
      clear hcell hin HK
      generalize likLL t (os.getD k []) = Y at *
      generalize str (os.getD k []) = X at *
      go_wp2_with fail
      refine HK'.out.mono ?_
      rintro e w2 ⟨rfl, hb2⟩
      have HO2 : Hid (OwnI w.heap.size _ ((os.take k).map (likLL t)) w2) := hown.out.below hb2
      have HB2 : Hid (Below w.heap.size w w2) := bel_trans hbl.out hb2
      have hs2 : w.heap.size ≤ w2.heap.size := HB2.out.size
      clear hb2 hown
      go_wp2_with (at_builtin; go_must (refine wp_appI rfl (.tmp 14) (.tmp 21) rfl w.heap.size _ ((os.take k).map (likLL t)) _ Y rfl HO2.out _ rfl (by simp) hlk hs2 ?_); intro v6 w6 hown6 hb6)
      have HO6 : Hid (OwnI w.heap.size v6 ((os.take (k + 1)).map (likLL t)) w6) := (by rw [HT.out]; exact hown6 : OwnI _ v6 _ w6)
      have HB6 : Hid (Below w.heap.size w w6) := HB2.out.trans hb6
      clear hown6 hb6
      go_roundw
      case rel => exact ⟨k + 1, by omega, by go_num, HO6, HB6⟩
      case measure => simp [intOf]; omega
    · obtain rfl : k = os.length := by omega
      rw [List.take_length] at hown
      have HF := rfirst_any _ _ (by rw [List.length_map]; exact ho) wr hown.out.rd
      rw [List.length_map] at HF
      have HF' : Hid (Calls _ _ _ _ _) := HF
      clear HF
      have HV2 : Hid ((bst (fun k => likLL t (os.getD k [])) os.length).1 = (bst (fun j => (os.map (likLL t)).getD j 0) os.length).1) := (by rw [HE.out] : _ = _)
      generalize (bst (fun j => (os.map (likLL t)).getD j 0) os.length).1 = V at HF' HV2
      go_wp2_with fail
      refine HF'.out.mono ?_
      rintro e w2 ⟨rfl, hb2⟩
      have HB2 : Hid (Below w.heap.size w w2) := bel_trans hbl.out hb2
      clear hb2
      go_wp2
      go_ret
      exact ⟨by rw [HV2.out]; rfl, HB2.out⟩

end Ac
end Go.Proofs.YtnhkkemphjblhaaDoor

/-
  The law's weights and sameWeights.
-/
set_option linter.unusedVariables false
set_option linter.unusedSimpArgs false
namespace Go.Proofs.YtnhkkemphjblhaaDoor
open Go.RowKit Go.Shelf
namespace Ac
open Oc Tg

set_option maxRecDepth 100000 in
set_option maxHeartbeats 1000000 in
theorem sameW_any (v1 v2 : Value) (t : List Wt) (w : World) (h1 : RdW v1 t w) (h2 : RdW v2 t w) (hl : t.length ≤ 4294967296) :
    Calls Tryd.prog 17 #[v1, v2] w fun e w' => e = .returned (.bool true) ∧ ∃ n, w' = w.drewN n := by
  obtain ⟨a1, c1, rfl, h1⟩ := h1
  obtain ⟨a2, c2, rfl, h2⟩ := h2
  have hne : ((t.length : Int) != (t.length : Int)) = false := by simp
  go_enter Tryd.func17, Tryd.ntmps17
  go_wp2
  go_loopw [5] (fun i wr => ∃ k : Nat, k ≤ t.length ∧ i = .int .i64 k ∧ Hid (∃ n, wr = w.drewN n)) (fun i _ => t.length - (intOf i).toNat)
  case atStart => exact ⟨0, Nat.zero_le _, rfl, (⟨0, rfl⟩ : ∃ n, w = w.drewN n)⟩
  case round =>
    obtain ⟨k, hk, rfl, hw⟩ := hrel
    obtain ⟨n, rfl⟩ := hw.out
    clear hw
    by_cases hlt : k < t.length
    · rcases h1 with h | ⟨g1, o1, rfl, hc1, hcell1⟩
      · rw [h] at hlt; simp at hlt
      rcases h2 with h | ⟨g2, o2, rfl, hc2, hcell2⟩
      · rw [h] at hlt; simp at hlt
      obtain ⟨p0, p1⟩ := hcell1 k hlt
      obtain ⟨q0, q1⟩ := hcell2 k hlt
      clear hcell1 hcell2
      generalize str (nthW t k).1 = x at p0 q0
      generalize (nthW t k).2 = y at p1 q1
      have hy : (y != y) = false := by simp
      have hx : (x.toList != x.toList) = false := by simp
      go_wp2_with fail
      go_quiet (fail)
      go_wp2
      go_roundw
      case rel => exact ⟨k + 1, by omega, by go_num, (⟨n + nq, rfl⟩ : ∃ m, w.drewN (n + nq) = w.drewN m)⟩
      case measure => simp [intOf]; omega
    · go_wp2
      go_ret
      exact ⟨rfl, _, rfl⟩

theorem step_appW {ops : Array Oper} {o : Oper} {a : Act} {K : Act → World → Prop} {Q : Exit → Act → World → Prop} {E : Prop} (T S : Nat) (hinfo : (Tryd.prog.info? T).map (fun i => (i.zero, i.size, i.bytes)) = some (some (.agg #[.string ⟨#[]⟩, .int .i64 0]), 2, 24))
    (hund : Tryd.prog.underlying S = some (.slice T)) (hgd : o.guard = none) (s x : Operand)
    (ho : o.op = .call { callee := .builtin .append, args := #[s, x], argTypes := #[S, S] }) (B : Nat) (v : Value) (t : List Wt) (W : World) (p : Wt) (n1 : ByteArray) (n2 : Int) (h1 : n1 = str p.1) (h2 : n2 = p.2)
    (hs : a.eval s = v) (hown : OwnW T B v t W) (g : Nat) (hx : a.eval x = .slice (some ⟨g, 0, none⟩) 1 1) (hg : g = W.heap.size) (hlen : t.length + 1 ≤ 2147483648) (hB : B ≤ W.heap.size)
    (h : ∀ v' w', OwnW T B v' (t ++ [p]) w' → Below B W w' → K (a.put o.dst v') w') : if Region.wanted o (yielded ops a.tmps) = true then Oper.wp Tryd.prog o a (W.alloc (.cells #[.string n1, .int .i64 n2] T)) K Q else E := by
  subst h1 h2 hg
  have hw : Region.wanted o (yielded ops a.tmps) = true := by simp [Region.wanted, hgd]
  rw [if_pos hw]
  obtain ⟨i0, hi, hz0, hz1, hz2⟩ := info_parts hinfo
  refine wp_append_own _ s x S ho B T i0 (.agg #[.string ⟨#[]⟩, .int .i64 0]) 2 24 hund hi hz0 hz1 hz2 rfl (by decide) v t.length _ hs (World.ownsRow.alloc hown _) ⟨W.heap.size, 0, none⟩ 1 1 (encW1 p) hx rfl ?_ ?_ ?_ ?_ ?_ ?_
  · intro j u hj
    unfold encW1 at hj
    match j, hj with
    | 0, hj => simp at hj; subst hj; simp [Addr.add]
    | 1, hj => simp at hj; subst hj; simp [Addr.add]
  · intro u hu
    unfold encW1 at hu
    simp at hu
    rcases hu with rfl | rfl <;> rfl
  · unfold maxLen; omega
  · omega
  · simp; omega
  · intro v' w' h1 h2 _
    refine h v' w' ?_ (((Below.refl B W).alloc hB _).grown h2 (by simp; omega) (fun k hk => (World.ownsRow.lt hown k hk).1))
    unfold OwnW
    rw [encW_snoc, List.length_append]
    exact h1

theorem take_nthW (t : List Wt) (k : Nat) (h : k < t.length) : t.take (k + 1) = t.take k ++ [nthW t k] := by
  unfold nthW
  rw [List.take_add_one, List.getElem?_eq_getElem h, List.getD_eq_getElem?_getD, List.getElem?_eq_getElem h]; rfl

set_option maxRecDepth 100000 in
set_option maxHeartbeats 4000000 in
theorem weights_any (v : Value) (t : List Wt) (w : World) (h : RdW v t w) (hl : t.length ≤ 16777216) :
    Calls Tryd.prog 14 #[v] w fun e w' => ∃ u, e = .returned u ∧ OwnW 67 w.heap.size u t w' ∧ Below w.heap.size w w' := by
  obtain ⟨a, c, rfl, h⟩ := h
  have HR : Hid (t = [] ∨ ∃ g o, a = some ⟨g, o, none⟩ ∧ t.length ≤ c ∧ ∀ j, j < t.length → w.cell? ⟨g, o + j * 2, none⟩ = some (.string (str (nthW t j).1)) ∧ w.cell? ⟨g, o + j * 2 + 1, none⟩ = some (.int .i64 (nthW t j).2)) := h
  clear h
  go_enter Tryd.func14, Tryd.ntmps14
  go_wp2
  go_loopw [3, 4] (fun ov i wr => ∃ k : Nat, k ≤ t.length ∧ i = .int .i64 k ∧ Hid (OwnW 67 w.heap.size ov (t.take k) wr) ∧ Hid (Below w.heap.size w wr)) (fun _ i _ => t.length - (intOf i).toNat)
  case atStart => exact ⟨0, Nat.zero_le _, rfl, ownW_empty _ w (Nat.le_refl _), (Below.refl _ w).alloc (Nat.le_refl _) _⟩
  case round =>
    obtain ⟨k, hk, rfl, hown, hbl⟩ := hrel
    have hsz := hbl.out.size
    by_cases hlt : k < t.length
    · rcases HR.out with h | ⟨g, o, rfl, hc, hcell⟩
      · rw [h] at hlt; simp at hlt
      obtain ⟨c0, c1⟩ := hcell k hlt
      have hg : g < w.heap.size := World.block_lt_of_cell? w _ c0
      have d0 : wr.cell? ⟨g, o + k * 2, none⟩ = some (.string (str (nthW t k).1)) := (hbl.out.cell (p := ⟨g, o + k * 2, none⟩) hg).trans c0
      have d1 : wr.cell? ⟨g, o + k * 2 + 1, none⟩ = some (.int .i64 (nthW t k).2) := (hbl.out.cell (p := ⟨g, o + k * 2 + 1, none⟩) hg).trans c1
      clear hcell c0 c1
      have HTk : Hid (t.take (k + 1) = t.take k ++ [nthW t k]) := take_nthW t k hlt
      have hlk : (t.take k).length + 1 ≤ 2147483648 := by rw [List.length_take]; omega
      generalize nthW t k = p at *
      obtain ⟨pn, pq⟩ := p
      dsimp only at d0 d1
      generalize hn : str pn = n at d0
      have HN : Hid (n = str pn) := hn.symm
      clear hn
      have HO1 : Hid (OwnW 67 w.heap.size _ (t.take k) wr.drew) := hown.out.below (below_drewN (Below.refl _ _) 1)
      have HB1 : Hid (Below w.heap.size w wr.drew) := below_drewN hbl.out 1
      have hs1 : w.heap.size ≤ wr.drew.heap.size := hsz
      go_wp2_with fail
      go_region_law (refine step_appW 67 41 infoW2 Tryd.underlying41 rfl (.tmp 12) (.tmp 24) rfl w.heap.size _ (t.take k) _ (pn, pq) _ _ HN.out rfl (by simp [Act.eval, Act.put]) HO1.out _ (by simp [Act.eval, Act.put]) rfl hlk hs1 ?_; intro v6 w6 hown6 hb6)
      all_goals
        have HO6 : Hid (OwnW 67 w.heap.size v6 (t.take (k + 1)) w6) := (by rw [HTk.out]; exact hown6 : OwnW 67 w.heap.size v6 (t.take (k + 1)) w6)
        have HB6 : Hid (Below w.heap.size w w6) := HB1.out.trans hb6
        clear hown6 hb6
        go_wp2
        go_roundw
        case rel => exact ⟨k + 1, by omega, by go_num, HO6, HB6⟩
        case measure => simp [intOf]; omega
    · obtain rfl : k = t.length := by omega
      rw [List.take_length] at hown
      go_wp2
      go_ret
      exact ⟨_, rfl, hown.out, hbl.out⟩

end Ac
end Go.Proofs.YtnhkkemphjblhaaDoor
