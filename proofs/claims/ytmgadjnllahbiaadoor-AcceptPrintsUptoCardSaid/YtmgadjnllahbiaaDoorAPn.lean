/-
  accept.Print; what it printed is read back.
-/
import Derived.Test.YtmgadjnllahbiaaDoorAMe
import Derived.Test.YtmgadjnllahbiaaDoorPrt
set_option linter.unusedVariables false
set_option linter.unusedSimpArgs false
namespace Go.Proofs.YtmgadjnllahbiaaDoor
open Go.RowKit Go.Shelf
namespace Ac
open Oc Tg

def smTok (l : List UInt8) : Bool := isTok l && decide (lower l = l)
/-- A media type as text, and the error. -/
def prM (A B : List UInt8) (ps : List Prm) : List UInt8 × Int :=
  if smTok A && smTok B && !ps.any noVal && !ps.any notSmall then (match prts ps with | some x => (A ++ 47 :: (B ++ x), 0) | none => ([], 70)) else ([], 70)

set_option maxHeartbeats 1000000 in
theorem isSmallToken_any (n : List UInt8) (hn : n.length ≤ maxLen) (w : World) (t : Tab w) :
    Calls Tryd.prog 10 #[.string (str n)] w fun e w' => e = .returned (.bool (smTok n)) ∧ Below w.heap.size w w' := by
  have HT : Calls Tryd.prog 22 #[.string (str n)] w fun e w' => e = .returned (.bool (isTok n)) ∧ Below w.heap.size w w' := by
    have := IsToken_any (str n) (by rw [str_size]; exact hn) w t
    rw [str_list] at this
    exact this
  have HS : Hid (∀ w, Calls Tryd.prog 23 #[.string (str n)] w fun e w' => e = .returned (.bool (decide (lower n = n))) ∧ Below w.heap.size w w') := fun w => isSmall_any n hn w
  have HD : Hid ((isTok n && decide (lower n = n)) = smTok n) := rfl
  clear t
  generalize smTok n = r at *
  generalize decide (lower n = n) = b at *
  generalize isTok n = a at *
  cases a with
  | false =>
    go_enter Tryd.func10, Tryd.ntmps10
    go_wp2_with fail
    refine HT.mono ?_
    rintro e w2 ⟨rfl, hb2⟩
    go_wp2
    go_ret
    exact ⟨ret_bool (by rw [← HD.out]; rfl), hb2⟩
  | true =>
    go_enter Tryd.func10, Tryd.ntmps10
    go_wp2_with fail
    refine HT.mono ?_
    rintro e w2 ⟨rfl, hb2⟩
    have HB2 : Hid (Below w.heap.size w w2) := hb2
    clear hb2
    go_wp2_with fail
    refine (HS.out _).mono ?_
    rintro e w3 ⟨rfl, hb3⟩
    have HB3 : Hid (Below w.heap.size w w3) := bel_trans HB2.out hb3
    clear hb3
    go_wp2
    go_ret
    exact ⟨ret_bool (by rw [← HD.out]; simp), HB3.out⟩

theorem tok_blank {c : UInt8} (h : tokB c = true) : blankB c = false := (tokB_kind c h).1
theorem last_app {a b : List UInt8} (hb : b ≠ []) : (a ++ b).getLast? = b.getLast? := by
  rw [List.getLast?_append]
  cases h : b.getLast? with
  | none => rw [List.getLast?_eq_none_iff] at h; exact absurd h hb
  | some c => rfl
theorem tok_last {l : List UInt8} (h : isTok l = true) : ∀ c, l.getLast? = some c → blankB c = false := fun c hc => tok_blank ((isTok_iff l).1 h |>.2 c (List.mem_of_getLast? hc))
theorem trim_same (l : List UInt8) (h1 : ∀ c, l.head? = some c → blankB c = false) (h2 : ∀ c, l.getLast? = some c → blankB c = false) : trim l = l := by
  unfold trim trimR trimL
  have e : l.dropWhile blankB = l := by
    cases l with
    | nil => rfl
    | cons a r => simp [List.dropWhile, h1 a rfl]
  rw [e]
  have e2 : l.reverse.dropWhile blankB = l.reverse := by
    cases hr : l.reverse with
    | nil => rfl
    | cons a r =>
      have : l.getLast? = some a := by rw [← List.head?_reverse, hr]; rfl
      simp [List.dropWhile, h2 a this]
  rw [e2, List.reverse_reverse]
theorem small_map (ps : List Prm) (h : ps.any notSmall = false) : ps.map lowP = ps := by
  induction ps with
  | nil => rfl
  | cons p r ih =>
    rw [List.any_cons, Bool.or_eq_false_iff] at h
    rw [List.map_cons, ih h.2]
    have : lower p.1 = p.1 := by
      have := h.1
      unfold notSmall at this
      simpa using this
    unfold lowP
    rw [this]
theorem prM_back (A B : List UInt8) (ps : List Prm) (hlast : ∀ x, prts ps = some x → ∀ c, x.getLast? = some c → blankB c = false) (h : (prM A B ps).2 = 0) : parM (prM A B ps).1 = some (A, B, ps) := by
  unfold prM at *
  split at h
  · rename_i hc
    rw [if_pos hc]
    cases hp : prts ps with
    | none => rw [hp] at h; cases h
    | some x =>
      dsimp only
      rw [Bool.and_eq_true, Bool.and_eq_true, Bool.and_eq_true] at hc
      obtain ⟨⟨⟨a1, a2⟩, a3⟩, a4⟩ := hc
      unfold smTok at a1 a2
      rw [Bool.and_eq_true] at a1 a2
      obtain ⟨kn, hK⟩ := (isTok_iff A).1 a1.1
      obtain ⟨sn, hS⟩ := (isTok_iff B).1 a2.1
      have a3' : ps.any noVal = false := by simpa using a3
      have a4' : ps.any notSmall = false := by simpa using a4
      have ht : trim (A ++ 47 :: (B ++ x)) = A ++ 47 :: (B ++ x) := by
        refine trim_same _ (fun c hc => ?_) (fun c hc => ?_)
        · cases A with
          | nil => exact absurd rfl kn
          | cons d A =>
            obtain rfl : d = c := by simpa using hc
            exact tok_blank (hK d (by simp))
        · rw [show A ++ 47 :: (B ++ x) = (A ++ [47]) ++ (B ++ x) by simp, last_app (by simp [sn])] at hc
          by_cases hx : x = []
          · subst hx
            rw [List.append_nil] at hc
            exact tok_last a2.1 c hc
          · rw [last_app hx] at hc
            exact hlast x hp c hc
      have hst := prts_stops hp
      have hhd : ∀ c, x.head? = some c → endB c = true := by
        intro c hc
        rcases hst with rfl | ⟨y, rfl⟩
        · simp at hc
        · obtain rfl : (59 : UInt8) = c := by simpa using hc
          decide
      have hpr : paramsR x = (ps, (x.length : Int), 0) := paramsR_some (prm_prts ps x hp)
      have hf : full x := by unfold full; rw [hpr]; exact ⟨rfl, rfl⟩
      have hm : med (A ++ 47 :: (B ++ x)) = some (A, B, ps) := by
        rw [med_shape A B x hK hS hhd kn sn, if_pos hf]
        unfold psOf
        rw [hpr, small_map ps a4', of_decide_eq_true a1.2, of_decide_eq_true a2.2]
      unfold parM
      rw [ht, hm]
      dsimp only
      rw [if_neg (by rw [a3']; decide)]
  · cases h

theorem prt1_last {p : Prm} {x : List UInt8} (h : prt1 p = some x) : x ≠ [] ∧ ∀ c, x.getLast? = some c → blankB c = false := by
  unfold prt1 at h
  split at h
  · cases h
  · rename_i ht
    have ht' : isTok p.1 = true := by simpa using ht
    split at h
    · split at h
      · cases h
        refine ⟨by simp, fun c hc => ?_⟩
        rw [show 59 :: 32 :: p.1 = [59, 32] ++ p.1 from rfl, last_app ((isTok_iff _).1 ht').1] at hc
        exact tok_last ht' c hc
      · cases h
    · split at h
      · rename_i hv
        cases h
        refine ⟨by simp, fun c hc => ?_⟩
        rw [show 59 :: 32 :: (p.1 ++ 61 :: p.2.1) = (59 :: 32 :: (p.1 ++ [61])) ++ p.2.1 by simp, last_app ((isTok_iff _).1 hv).1] at hc
        exact tok_last hv c hc
      · split at h
        · cases h
          refine ⟨by simp, fun c hc => ?_⟩
          rw [show 59 :: 32 :: (p.1 ++ 61 :: qText p.2.1) = (59 :: 32 :: (p.1 ++ 61 :: 34 :: qBody p.2.1)) ++ [34] by simp [qText], last_app (by simp)] at hc
          obtain rfl : (34 : UInt8) = c := by simpa using hc
          decide
        · cases h
theorem prts_last : ∀ (ps : List Prm) (x : List UInt8), prts ps = some x → ∀ c, x.getLast? = some c → blankB c = false
  | [], x, h, c, hc => by cases h; simp at hc
  | p :: r, x, h, c, hc => by
    unfold prts at h
    cases h1 : prt1 p with
    | none => rw [h1] at h; cases h
    | some a =>
      rw [h1] at h
      obtain ⟨y, hy, rfl⟩ := Option.map_eq_some_iff.1 h
      by_cases hy0 : y = []
      · subst hy0
        rw [List.append_nil] at hc
        exact (prt1_last h1).2 c hc
      · rw [last_app hy0] at hc
        exact prts_last r y hy c hc
theorem prts_len : ∀ (ps : List Prm) (x : List UInt8), prts ps = some x → x.length ≤ 2 * sumP ps
  | [], x, h => by cases h; exact Nat.zero_le _
  | p :: r, x, h => by
    unfold prts at h
    cases h1 : prt1 p with
    | none => rw [h1] at h; cases h
    | some a =>
      rw [h1] at h
      obtain ⟨y, hy, rfl⟩ := Option.map_eq_some_iff.1 h
      have i1 := prt1_len h1
      have i2 := prts_len r y hy
      have e : sumP (p :: r) = szP p + sumP r := by simp [sumP]
      rw [List.length_append, e]
      omega
theorem prM_read (A B : List UInt8) (ps : List Prm) (h : (prM A B ps).2 = 0) : parM (prM A B ps).1 = some (A, B, ps) := prM_back A B ps (prts_last ps) h

set_option maxRecDepth 100000 in
set_option maxHeartbeats 2000000 in
theorem Print07_any (A B : List UInt8) (v : Value) (ps : List Prm) (hA : A.length ≤ 1048576) (hB : B.length ≤ 1048576) (hM : EachP 1048576 ps) (hl : ps.length ≤ 1048576) (hS : sumP ps ≤ 8388608) (w : World) (hrd : RdP v ps w) (t : Tab w) :
    Calls Tryd.prog 5 #[.agg #[.string (str A), .string (str B), v]] w fun e w' => e = .returned (.tuple #[.string (str (prM A B ps).1), .int .i64 (prM A B ps).2]) ∧ Below w.heap.size w w' := by
  have HR : Hid (RdP v ps w) := hrd
  have HT : Hid (Tab w) := t
  obtain ⟨va, vc, rfl, _⟩ := hrd
  clear t
  obtain ⟨w2, hw2⟩ : ∃ w2, w2 = w.alloc (.cells #[.string (str A), .string (str B), .slice va ps.length vc] 24) := ⟨_, rfl⟩
  have HR1 : Hid (w2.heap[w.heap.size]? = some (.cells #[.string (str A), .string (str B), .slice va ps.length vc] 24 (0, 0))) := by
    show _ = _; rw [hw2]; exact heap_alloc_new w _
  have hb2 : Below w.heap.size w w2 := by rw [hw2]; exact (Below.refl _ w).alloc (Nat.le_refl _) _
  have hz2 : w.heap.size < w2.heap.size := by rw [hw2]; simp
  have HB2 : Hid (Below w.heap.size w w2) := hb2
  have HT2 : Hid (Tab w2) := HT.out.below hb2 (Nat.le_refl _)
  have HR2 : Hid (RdP (.slice va ps.length vc) ps w2) := HR.out.below hb2
  clear hb2
  have FA : Hid (∀ w, Tab w → Calls Tryd.prog 10 #[.string (str A)] w fun e w' => e = .returned (.bool (smTok A)) ∧ Below w.heap.size w w') := fun w h => isSmallToken_any A (by unfold maxLen; omega) w h
  have FB : Hid (∀ w, Tab w → Calls Tryd.prog 10 #[.string (str B)] w fun e w' => e = .returned (.bool (smTok B)) ∧ Below w.heap.size w w') := fun w h => isSmallToken_any B (by unfold maxLen; omega) w h
  have FV : Hid (∀ w, RdP (.slice va ps.length vc) ps w → Calls Tryd.prog 11 #[.slice va ps.length vc] w fun e w' => e = .returned (.bool (!ps.any noVal)) ∧ Below w.heap.size w w') := fun w h => allValued_any _ ps (hM.mono (by unfold maxLen; omega)) (by omega) w h
  have FS : Hid (∀ w, RdP (.slice va ps.length vc) ps w → Calls Tryd.prog 12 #[.slice va ps.length vc] w fun e w' => e = .returned (.bool (!ps.any notSmall)) ∧ Below w.heap.size w w') := fun w h => allSmall_any _ ps (hM.mono (by unfold maxLen; omega)) (by omega) w h
  have FP : Hid (∀ w, RdP (.slice va ps.length vc) ps w → Tab w → Calls Tryd.prog 13 #[.slice va ps.length vc] w fun e w' => e = .returned (.tuple #[.string (str (printR ps).1), .int .i64 (printR ps).2]) ∧ Below w.heap.size w w') := fun w h h2 => Print_any _ ps w h (by omega) hS h2
  have hcellA : Hid (∀ W, Below w2.heap.size w2 W → W.cell? ⟨w.heap.size, 0, none⟩ = some (.string (str A)) ∧ W.cell? ⟨w.heap.size, 1, none⟩ = some (.string (str B)) ∧ W.cell? ⟨w.heap.size, 2, none⟩ = some (.slice va ps.length vc)) := fun W hW => by
    have R := (hW.block _ hz2).trans HR1.out
    have c0 := Lib.cell_of_heap R 0
    have c1 := Lib.cell_of_heap R 1
    have c2 := Lib.cell_of_heap R 2
    simp at c0 c1 c2
    exact ⟨c0, c1, c2⟩
  have HPr : Hid (prM A B ps = if smTok A && smTok B && !ps.any noVal && !ps.any notSmall then (if (printR ps).2 = 0 then (A ++ 47 :: (B ++ (printR ps).1), 0) else ([], 70)) else ([], 70)) := by
    show _ = _
    unfold prM printR
    cases prts ps <;> rfl
  have hcat : Hid (∀ X, str A ++ (⟨#[47]⟩ : ByteArray) ++ str B ++ str X = str (A ++ 47 :: (B ++ X))) := fun X => by
    apply eq_list
    simp [str]
  have hlenP : (printR ps).1.length ≤ 16777216 := by
    unfold printR
    cases hp : prts ps with
    | none => exact Nat.zero_le _
    | some x => exact Nat.le_trans (prts_len ps x hp) (by omega)
  generalize smTok A = ta at *
  generalize smTok B = tb at *
  generalize ps.any noVal = nv at *
  generalize ps.any notSmall = ns at *
  generalize (printR ps).1 = PX at *
  generalize (printR ps).2 = pe at *
  have HB2' : Hid (Below w2.heap.size w2 w2) := Below.refl _ _
  go_enter Tryd.func5, Tryd.ntmps5
  go_wp2_with fail
  rw [← hw2]
  clear hw2 HR HT HR1
  refine (FA.out _ HT2.out).mono ?_
  rintro e w3 ⟨rfl, hb⟩
  have HB3 : Hid (Below w2.heap.size w2 w3) := hb
  have HT3 : Hid (Tab w3) := HT2.out.below hb (Nat.le_refl _)
  have HR3 : Hid (RdP (.slice va ps.length vc) ps w3) := HR2.out.below hb
  obtain ⟨c0, c1, c2⟩ := hcellA.out _ HB3.out
  clear hb HT2 HR2
  cases ta with
  | false =>
    have HN : Hid (prM A B ps = ([], 70)) := (by rw [HPr.out]; simp : prM A B ps = _)
    go_wp2
    go_ret2
    rw [HN.out]
    exact ⟨rfl, HB2.out.trans (HB3.out.mono (by omega))⟩
  | true =>
    go_wp2_with fail
    refine (FB.out _ HT3.out).mono ?_
    rintro e w4 ⟨rfl, hb⟩
    have HB4 : Hid (Below w2.heap.size w2 w4) := bel_trans HB3.out hb
    have HT4 : Hid (Tab w4) := HT3.out.below hb (Nat.le_refl _)
    have HR4 : Hid (RdP (.slice va ps.length vc) ps w4) := HR3.out.below hb
    obtain ⟨c0, c1, c2⟩ := hcellA.out _ HB4.out
    clear hb HB3 HT3 HR3
    cases tb with
    | false =>
      have HN : Hid (prM A B ps = ([], 70)) := (by rw [HPr.out]; simp : prM A B ps = _)
      go_wp2
      go_ret2
      rw [HN.out]
      exact ⟨rfl, HB2.out.trans (HB4.out.mono (by omega))⟩
    | true =>
      go_wp2_with fail
      refine (FV.out _ HR4.out).mono ?_
      rintro e w5 ⟨rfl, hb⟩
      have HB5 : Hid (Below w2.heap.size w2 w5) := bel_trans HB4.out hb
      have HT5 : Hid (Tab w5) := HT4.out.below hb (Nat.le_refl _)
      have HR5 : Hid (RdP (.slice va ps.length vc) ps w5) := HR4.out.below hb
      obtain ⟨c0, c1, c2⟩ := hcellA.out _ HB5.out
      clear hb HB4 HT4 HR4
      cases nv with
      | true =>
        have HN : Hid (prM A B ps = ([], 70)) := (by rw [HPr.out]; simp : prM A B ps = _)
        go_wp2
        go_ret2
        rw [HN.out]
        exact ⟨rfl, HB2.out.trans (HB5.out.mono (by omega))⟩
      | false =>
        go_wp2_with fail
        refine (FS.out _ HR5.out).mono ?_
        rintro e w6 ⟨rfl, hb⟩
        have HB6 : Hid (Below w2.heap.size w2 w6) := bel_trans HB5.out hb
        have HT6 : Hid (Tab w6) := HT5.out.below hb (Nat.le_refl _)
        have HR6 : Hid (RdP (.slice va ps.length vc) ps w6) := HR5.out.below hb
        obtain ⟨c0, c1, c2⟩ := hcellA.out _ HB6.out
        clear hb HB5 HT5 HR5
        cases ns with
        | true =>
          have HN : Hid (prM A B ps = ([], 70)) := (by rw [HPr.out]; simp : prM A B ps = _)
          go_wp2
          go_ret2
          rw [HN.out]
          exact ⟨rfl, HB2.out.trans (HB6.out.mono (by omega))⟩
        | false =>
          go_wp2_with fail
          refine (FP.out _ HR6.out HT6.out).mono ?_
          rintro e w7 ⟨rfl, hb⟩
          have HB7 : Hid (Below w2.heap.size w2 w7) := bel_trans HB6.out hb
          have HT7 : Hid (Tab w7) := HT6.out.below hb (Nat.le_refl _)
          have HR7 : Hid (RdP (.slice va ps.length vc) ps w7) := HR6.out.below hb
          obtain ⟨c0, c1, c2⟩ := hcellA.out _ HB7.out
          clear hb HB6 HT6 HR6
          by_cases hpe : pe = 0
          · subst hpe
            have HN : Hid (prM A B ps = (A ++ 47 :: (B ++ PX), 0)) := (by rw [HPr.out]; simp : prM A B ps = _)
            have hs1 : (str A).size ≤ 1048576 := by rw [str_size]; exact hA
            have hs2 : (str B).size ≤ 1048576 := by rw [str_size]; exact hB
            have hs3 : (str PX).size ≤ 16777216 := by rw [str_size]; exact hlenP
            have hc := hcat.out PX
            go_wp2
            go_ret2
            rw [HN.out]
            exact ⟨by rw [← hcat.out]; rfl, HB2.out.trans (HB7.out.mono (by omega))⟩
          · have dpe : (pe != 0) = true := by simp [hpe]
            have HN : Hid (prM A B ps = ([], 70)) := (by rw [HPr.out]; simp [hpe] : prM A B ps = _)
            go_wp2
            go_ret2
            rw [HN.out]
            exact ⟨rfl, HB2.out.trans (HB7.out.mono (by omega))⟩

end Ac
end Go.Proofs.YtmgadjnllahbiaaDoor
