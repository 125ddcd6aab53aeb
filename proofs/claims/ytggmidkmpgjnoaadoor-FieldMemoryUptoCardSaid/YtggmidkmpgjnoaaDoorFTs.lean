/-
  The document's Set.
-/
import Derived.Test.YtggmidkmpgjnoaaDoorMgQ
set_option linter.unusedVariables false
set_option linter.unusedSimpArgs false
namespace Go.Proofs.YtggmidkmpgjnoaaDoor
open Go.RowKit Go.Shelf
namespace Fd
open Oc Tg

def stepS (p : Fl) (a : List Fl × Bool) (x : Fl) : List Fl × Bool := if alike p.1 x then (if a.2 then a.1 else a.1 ++ [p], true) else (a.1 ++ [x], a.2)
def rset (p : Fl) (t : List Fl) : List Fl × Bool := t.foldl (stepS p) ([], false)
def rsetL (p : Fl) (t : List Fl) : List Fl := if (rset p t).2 then (rset p t).1 else (rset p t).1 ++ [p]
theorem stepS_in {p x : Fl} (a : List Fl × Bool) (h : alike p.1 x = true) : stepS p a x = (if a.2 then a.1 else a.1 ++ [p], true) := by unfold stepS; rw [if_pos h]
theorem stepS_out {p x : Fl} (a : List Fl × Bool) (h : alike p.1 x = false) : stepS p a x = (a.1 ++ [x], a.2) := by unfold stepS; rw [if_neg (by simp [h])]
theorem fold_there (p : Fl) : ∀ (l acc : List Fl), l.foldl (stepS p) (acc, true) = (acc ++ l.filter (unlike p.1), true)
  | [], acc => by simp
  | x :: l, acc => by
    rw [List.foldl_cons]
    cases h : alike p.1 x with
    | true =>
      rw [stepS_in _ h, if_pos rfl, fold_there p l acc, List.filter_cons, if_neg (by simp [unlike, h])]
    | false =>
      rw [stepS_out _ h, fold_there p l _, List.filter_cons, if_pos (by simp [unlike, h])]
      simp
theorem fold_not (p : Fl) : ∀ (l acc : List Fl), l.foldl (stepS p) (acc, false) = (match l.findIdx? (alike p.1) with
    | none => (acc ++ l, false)
    | some k => (acc ++ l.take k ++ p :: (l.drop (k + 1)).filter (unlike p.1), true))
  | [], acc => by simp
  | x :: l, acc => by
    rw [List.foldl_cons, List.findIdx?_cons]
    cases h : alike p.1 x with
    | true =>
      rw [stepS_in _ h, if_neg (by simp), fold_there p l _]
      simp
    | false =>
      rw [stepS_out _ h, fold_not p l _]
      cases hf : l.findIdx? (alike p.1) with
      | none => simp
      | some k => simp
theorem rset_none {p : Fl} {t : List Fl} (h : t.findIdx? (alike p.1) = none) : rset p t = (t, false) := by
  have := fold_not p t []
  rw [h] at this
  unfold rset
  simpa using this
theorem rset_some {p : Fl} {t : List Fl} {k : Nat} (h : t.findIdx? (alike p.1) = some k) : rset p t = (setL p t k, true) := by
  have := fold_not p t []
  rw [h] at this
  rw [setL_is p t k h]
  unfold rset
  simpa using this
theorem rset_len (p : Fl) : ∀ (l : List Fl) (a : List Fl × Bool), (l.foldl (stepS p) a).1.length ≤ a.1.length + l.length
  | [], a => by simp
  | x :: l, a => by
    rw [List.foldl_cons]
    have := rset_len p l (stepS p a x)
    have h2 : (stepS p a x).1.length ≤ a.1.length + 1 := by
      unfold stepS
      split
      · split <;> simp
      · simp
    rw [List.length_cons]
    omega
theorem rset_take (p : Fl) (t : List Fl) (k : Nat) (h : k < t.length) : rset p (t.take (k + 1)) = stepS p (rset p (t.take k)) (nth t k) := by
  unfold rset
  rw [take_nth t k h, List.foldl_append]
  rfl
/-- What the document's Set answers is what Set answers. -/
theorem setF_eq (t : List Fl) (p : Fl) : setF t p = if chkZ p = 0 then (if 100 < (rsetL p t).length then ([], 65) else (rsetL p t, 0)) else ([], chkZ p) := by
  unfold setF
  cases hf : t.findIdx? (alike p.1) with
  | none =>
    have e : rsetL p t = t ++ [p] := by unfold rsetL; rw [rset_none hf]; simp
    dsimp only
    rw [e]
    unfold addF
    have : (100 < (t ++ [p]).length) ↔ 100 ≤ t.length := by rw [List.length_append]; simp; omega
    simp only [this]
  | some k =>
    have e : rsetL p t = setL p t k := by unfold rsetL; rw [rset_some hf]; simp
    dsimp only
    rw [e]

set_option maxRecDepth 100000 in
set_option maxHeartbeats 3000000 in
theorem rSet_any (v : Value) (t : List Fl) (n x : List UInt8) (hn : n.length ≤ 1048576) (hx : x.length ≤ 1048576) (hM : Each 1048576 t) (hl : t.length ≤ 16777215) (w : World) (hrd : RdF v t w) :
    Calls Tryd.prog 13 #[v, .string (str n), .string (str x)] w fun e w' => ∃ u, e = .returned (.tuple #[u, .int .i64 (setF t (n, x)).2]) ∧ OwnF 51 w.heap.size u (setF t (n, x)).1 w' ∧ Below w.heap.size w w' := by
  have HNm : Hid (∀ w, Calls Tryd.prog 26 #[.string (str n)] w fun e w' => e = .returned (.bool (isName n)) ∧ w' = w) := fun w => by
    have h := rIsName_any (str n) (by rw [str_size]; unfold maxLen; omega) w
    rw [str_list] at h
    exact h
  have HVl : Hid (∀ w, Calls Tryd.prog 27 #[.string (str x)] w fun e w' => e = .returned (.bool (isValue x)) ∧ w' = w) := fun w => by
    have h := rIsValue_any (str x) (by rw [str_size]; unfold maxLen; omega) w
    rw [str_list] at h
    exact h
  have HAk : Hid (∀ (p : Fl) w, p.1.length ≤ 1048576 → Calls Tryd.prog 31 #[.string (str p.1), .string (str n)] w fun e w' => e = .returned (.bool (alike n p)) ∧ Below w.heap.size w w') := fun p w h => by
    have h := rAlike_any (str p.1) (str n) (by rw [str_size]; unfold maxLen; omega) (by rw [str_size]; unfold maxLen; omega) w
    rw [low_alike] at h
    exact h
  have HR : Hid (RdF v t w) := hrd
  have HM : Hid (Each 1048576 t) := hM
  obtain ⟨va, vc, rfl, _⟩ := hrd
  clear hM
  rcases chk_cases (n, x) with ⟨hC, h1, h2⟩ | ⟨hC, h1, h2⟩ | ⟨hC, h1⟩
  · dsimp only at h1 h2
    rw [h1] at HNm
    rw [h2] at HVl
    have HAF : Hid (setF t (n, x) = if 100 < (rsetL (n, x) t).length then ([], 65) else (rsetL (n, x) t, 0)) := (by rw [setF_eq, if_pos hC] : _ = _)
    clear hC h1 h2
    generalize setF t (n, x) = SF at *
    generalize hsn : str n = N at *
    generalize hsx : str x = X at *
    have HN : Hid (N = str n) := hsn.symm
    have HX : Hid (X = str x) := hsx.symm
    clear hsn hsx hn hx
    go_enter Tryd.func13, Tryd.ntmps13
    go_wp2_with fail
    refine (HNm.out _).mono ?_
    rintro e w1 ⟨rfl, hw1⟩
    rw [hw1]
    clear hw1
    go_wp2_with fail
    refine (HVl.out _).mono ?_
    rintro e w2 ⟨rfl, hw2⟩
    rw [hw2]
    clear hw2
    go_wp2
    go_loopw [8, 9, 20] (fun ov bv i wr => ∃ (k : Nat) (b : Bool), k ≤ t.length ∧ i = .int .i64 k ∧ bv = .bool b ∧ Hid (b = (rset (n, x) (t.take k)).2) ∧ Hid (OwnF 51 w.heap.size ov (rset (n, x) (t.take k)).1 wr) ∧ Hid (Below w.heap.size w wr)) (fun _ _ i _ => t.length - (intOf i).toNat)
    case atStart => exact ⟨0, false, Nat.zero_le _, rfl, rfl, rfl, ownF_nil _ _ _, Below.refl _ _⟩
    case round =>
      obtain ⟨k, bb, hk, rfl, rfl, hbb, hown, hbl⟩ := hrel
      have hsz := hbl.out.size
      by_cases hlt : k < t.length
      · obtain ⟨a', c', e', hcs⟩ := HR.out.below hbl.out
        injection e' with e1 _ e2
        subst e1 e2
        rcases hcs with h | ⟨g, o, rfl, hlc, hcell⟩
        · rw [h] at hlt; simp at hlt
        obtain ⟨p0, p1⟩ := hcell k hlt
        have hEk := HM.out.at k hlt
        have hrt := rset_take (n, x) t k hlt
        have FF : alike n (nth t k) = false → Hid (rset (n, x) (t.take (k + 1)) = ((rset (n, x) (t.take k)).1 ++ [nth t k], (rset (n, x) (t.take k)).2)) := fun h => by
          have := hrt
          unfold stepS at this
          rw [if_neg (by simp [h])] at this
          exact this
        have TT : alike n (nth t k) = true → Hid (rset (n, x) (t.take (k + 1)) = (if (rset (n, x) (t.take k)).2 then (rset (n, x) (t.take k)).1 else (rset (n, x) (t.take k)).1 ++ [(n, x)], true)) := fun h => by
          have := hrt
          unfold stepS at this
          rw [if_pos h] at this
          exact this
        have hlk : (rset (n, x) (t.take k)).1.length + 1 ≤ 2147483648 := by
          have := rset_len (n, x) (t.take k) ([], false)
          unfold rset
          rw [List.length_take] at this
          simp at this
          omega
        have HC : Hid (∀ w, Calls Tryd.prog 31 #[.string (str (nth t k).1), .string N] w fun e w' => e = .returned (.bool (alike n (nth t k))) ∧ Below w.heap.size w w') := fun w => HAk.out _ w hEk.1
        clear hcell hEk hrt
        obtain ⟨r1, rb1, HR1⟩ : ∃ r1 rb1, Hid (rset (n, x) (t.take (k + 1)) = (r1, rb1)) := ⟨_, _, rfl⟩
        rw [HR1.out] at TT FF
        generalize rset (n, x) (t.take k) = R0 at *
        obtain ⟨r0, rb⟩ := R0
        dsimp only at hbb hown TT FF hlk
        have hbb' : bb = rb := hbb.out
        subst hbb'
        clear hbb
        generalize alike n (nth t k) = b at HC TT FF
        generalize nth t k = p at *
        obtain ⟨pn, pv⟩ := p
        dsimp only at p0 p1 HC FF
        generalize hn : str pn = N1 at *
        generalize hv : str pv = V1 at *
        have HN1 : Hid (N1 = str pn) := hn.symm
        have HV1 : Hid (V1 = str pv) := hv.symm
        clear hn hv
        have hb1 : Below wr.heap.size wr (wr.alloc (.cells #[.string N1, .string V1] 51)) := (Below.refl _ wr).alloc (Nat.le_refl _) _
        have HB1 : Hid (Below w.heap.size w (wr.alloc (.cells #[.string N1, .string V1] 51))) := bel_trans hbl.out hb1
        have HO1 : Hid (OwnF 51 w.heap.size _ r0 (wr.alloc (.cells #[.string N1, .string V1] 51))) := hown.out.below hb1
        clear hb1
        cases b with
        | false =>
          have ff := (FF rfl).out
          injection ff with f1 f2
          have HF1 : Hid ((rset (n, x) (t.take (k + 1))).1 = r0 ++ [(pn, pv)]) := (by rw [HR1.out]; exact f1 : (rset (n, x) (t.take (k + 1))).1 = r0 ++ [(pn, pv)])
          have HF2 : Hid (bb = (rset (n, x) (t.take (k + 1))).2) := (by rw [HR1.out]; exact f2.symm : _ = _)
          clear TT FF f1 f2
          go_wp2_with fail
          refine (HC.out _).mono ?_
          rintro e w2 ⟨rfl, hb2⟩
          have c0 : w2.cell? ⟨wr.heap.size, 0, none⟩ = some (.string N1) := by rw [hb2.cell (by simp)]; simp
          have c1 : w2.cell? ⟨wr.heap.size, 1, none⟩ = some (.string V1) := by rw [hb2.cell (by simp)]; simp
          have HB2 : Hid (Below w.heap.size w w2) := bel_trans HB1.out hb2
          have HO2 : Hid (OwnF 51 w.heap.size _ r0 w2) := HO1.out.below hb2
          have hs2 : w.heap.size ≤ w2.heap.size := HB2.out.size
          clear hb2
          go_wp2_with (at_builtin; go_must (refine wp_appF 51 26 infoF2 Tryd.underlying26 rfl (.tmp 29) (.tmp 31) rfl w.heap.size _ r0 _ (pn, pv) _ _ HN1.out HV1.out rfl HO2.out _ rfl (by simp) hlk hs2 ?_); intro v6 w6 hown6 hb6)
          have HO6 : Hid (OwnF 51 w.heap.size v6 (rset (n, x) (t.take (k + 1))).1 w6) := (by rw [HF1.out]; exact hown6 : OwnF _ _ v6 _ w6)
          have HB6 : Hid (Below w.heap.size w w6) := HB2.out.trans hb6
          clear hown6 hb6
          go_roundw
          case rel => exact ⟨k + 1, bb, by omega, by go_num, rfl, HF2, HO6, HB6⟩
          case measure => simp [intOf]; omega
        | true =>
          cases bb with
          | true =>
            have ff := (TT rfl).out
            rw [if_pos rfl] at ff
            injection ff with f1 f2
            have HF1 : Hid ((rset (n, x) (t.take (k + 1))).1 = r0) := (by rw [HR1.out]; exact f1 : (rset (n, x) (t.take (k + 1))).1 = r0)
            have HF2 : Hid (true = (rset (n, x) (t.take (k + 1))).2) := (by rw [HR1.out]; exact f2.symm : _ = _)
            clear TT FF f1 f2
            go_wp2_with fail
            refine (HC.out _).mono ?_
            rintro e w2 ⟨rfl, hb2⟩
            have HB2 : Hid (Below w.heap.size w w2) := bel_trans HB1.out hb2
            have HO2 : Hid (OwnF 51 w.heap.size _ (rset (n, x) (t.take (k + 1))).1 w2) := (by rw [HF1.out]; exact HO1.out.below hb2 : OwnF _ _ _ _ w2)
            clear hb2
            go_wp2
            go_roundw
            case rel => exact ⟨k + 1, true, by omega, by go_num, rfl, HF2, HO2, HB2⟩
            case measure => simp [intOf]; omega
          | false =>
            have ff := (TT rfl).out
            rw [if_neg (by simp)] at ff
            injection ff with f1 f2
            have HF1 : Hid ((rset (n, x) (t.take (k + 1))).1 = r0 ++ [(n, x)]) := (by rw [HR1.out]; exact f1 : (rset (n, x) (t.take (k + 1))).1 = r0 ++ [(n, x)])
            have HF2 : Hid (true = (rset (n, x) (t.take (k + 1))).2) := (by rw [HR1.out]; exact f2.symm : _ = _)
            clear TT FF f1 f2
            go_wp2_with fail
            refine (HC.out _).mono ?_
            rintro e w2 ⟨rfl, hb2⟩
            have HB2 : Hid (Below w.heap.size w w2) := bel_trans HB1.out hb2
            have HO2 : Hid (OwnF 51 w.heap.size _ r0 w2) := HO1.out.below hb2
            have hs2 : w.heap.size ≤ w2.heap.size := HB2.out.size
            clear hb2
            go_wp2_with (at_builtin; go_must (refine wp_appF 51 26 infoF2 Tryd.underlying26 rfl (.tmp 35) (.tmp 39) rfl w.heap.size _ r0 _ (n, x) _ _ HN.out HX.out rfl HO2.out _ rfl (by simp) hlk hs2 ?_); intro v6 w6 hown6 hb6)
            have HO6 : Hid (OwnF 51 w.heap.size v6 (rset (n, x) (t.take (k + 1))).1 w6) := (by rw [HF1.out]; exact hown6 : OwnF _ _ v6 _ w6)
            have HB6 : Hid (Below w.heap.size w w6) := HB2.out.trans hb6
            clear hown6 hb6
            go_roundw
            case rel => exact ⟨k + 1, true, by omega, by go_num, rfl, HF2, HO6, HB6⟩
            case measure => simp [intOf]; omega
      · obtain rfl : k = t.length := by omega
        rw [List.take_length] at hown hbb
        have hlr : (rset (n, x) t).1.length + 1 ≤ 2147483648 := by
          have := rset_len (n, x) t ([], false)
          unfold rset
          simp at this
          omega
        have HQ : Hid (rsetL (n, x) t = if (rset (n, x) t).2 then (rset (n, x) t).1 else (rset (n, x) t).1 ++ [(n, x)]) := rfl
        generalize rsetL (n, x) t = RL at *
        generalize rset (n, x) t = R0 at *
        obtain ⟨r0, rb⟩ := R0
        dsimp only at hbb hown HQ hlr
        have hbb' : bb = rb := hbb.out
        subst hbb'
        clear hbb
        cases bb with
        | true =>
          have HQ1 : Hid (RL = r0) := (by have := HQ.out; rw [if_pos rfl] at this; exact this : RL = r0)
          obtain ⟨oa, oc, hof⟩ := OwnF.form hown.out
          subst hof
          by_cases hmany : 100 < r0.length
          · have hd : decide ((100 : Int) < (r0.length : Int)) = true := decide_eq_true (by omega)
            have HSF : Hid (SF = ([], 65)) := (by rw [HAF.out, HQ1.out, if_pos hmany] : _ = _)
            go_wp2
            go_ret2
            rw [HSF.out]
            exact ⟨_, rfl, ownF_nil _ _ _, hbl.out⟩
          · have hd : decide ((100 : Int) < (r0.length : Int)) = false := decide_eq_false (by omega)
            have HSF : Hid (SF = (r0, 0)) := (by rw [HAF.out, HQ1.out, if_neg hmany] : _ = _)
            go_wp2
            go_ret2
            rw [HSF.out]
            exact ⟨_, rfl, hown.out, hbl.out⟩
        | false =>
          have HQ1 : Hid (RL = r0 ++ [(n, x)]) := (by have := HQ.out; rw [if_neg (by simp)] at this; exact this : RL = _)
          go_wp2_with (at_builtin; go_must (refine wp_appF 51 26 infoF2 Tryd.underlying26 rfl (.tmp 44) (.tmp 48) rfl w.heap.size _ r0 _ (n, x) _ _ HN.out HX.out rfl hown.out _ rfl (by simp) hlr hsz ?_); intro v6 w6 hown6 hb6; obtain ⟨oa, oc, hof⟩ := OwnF.form hown6; rw [← HQ1.out] at hown6 hof; subst hof)
          all_goals
            have HO6 : Hid (OwnF 51 w.heap.size _ RL w6) := hown6
            have HB6 : Hid (Below w.heap.size w w6) := hbl.out.trans hb6
            clear hown6 hb6
            by_cases hmany : 100 < RL.length
            · have hd : decide ((100 : Int) < (RL.length : Int)) = true := decide_eq_true (by omega)
              have HSF : Hid (SF = ([], 65)) := (by rw [HAF.out, if_pos hmany] : _ = _)
              first
                | (go_wp2; go_ret2; rw [HSF.out]; exact ⟨_, rfl, ownF_nil _ _ _, HB6.out⟩)
                | (go_ret2; rw [HSF.out]; exact ⟨_, rfl, ownF_nil _ _ _, HB6.out⟩)
                | (exfalso; omega)
            · have hd : decide ((100 : Int) < (RL.length : Int)) = false := decide_eq_false (by omega)
              have HSF : Hid (SF = (RL, 0)) := (by rw [HAF.out, if_neg hmany] : _ = _)
              first
                | (go_wp2; go_ret2; rw [HSF.out]; exact ⟨_, rfl, HO6.out, HB6.out⟩)
                | (go_ret2; rw [HSF.out]; exact ⟨_, rfl, HO6.out, HB6.out⟩)
                | (exfalso; omega)
  · dsimp only at h1 h2
    rw [h1] at HNm
    rw [h2] at HVl
    have HAF : Hid (setF t (n, x) = ([], 61)) := (by rw [setF_eq, hC, if_neg (by decide)] : _ = _)
    clear hC h1 h2
    generalize setF t (n, x) = AF at *
    generalize str n = N at *
    generalize str x = X at *
    go_enter Tryd.func13, Tryd.ntmps13
    go_wp2_with fail
    refine (HNm.out _).mono ?_
    rintro e w1 ⟨rfl, hw1⟩
    rw [hw1]
    clear hw1
    go_wp2_with fail
    refine (HVl.out _).mono ?_
    rintro e w2 ⟨rfl, hw2⟩
    rw [hw2]
    clear hw2
    go_wp2
    go_ret2
    rw [HAF.out]
    exact ⟨_, rfl, ownF_nil _ _ _, Below.refl _ _⟩
  · dsimp only at h1
    rw [h1] at HNm
    have HAF : Hid (setF t (n, x) = ([], 60)) := (by rw [setF_eq, hC, if_neg (by decide)] : _ = _)
    clear hC h1
    generalize setF t (n, x) = AF at *
    generalize str n = N at *
    generalize str x = X at *
    go_enter Tryd.func13, Tryd.ntmps13
    go_wp2_with fail
    refine (HNm.out _).mono ?_
    rintro e w1 ⟨rfl, hw1⟩
    rw [hw1]
    clear hw1
    go_wp2
    go_ret2
    rw [HAF.out]
    exact ⟨_, rfl, ownF_nil _ _ _, Below.refl _ _⟩

end Fd
end Go.Proofs.YtggmidkmpgjnoaaDoor
