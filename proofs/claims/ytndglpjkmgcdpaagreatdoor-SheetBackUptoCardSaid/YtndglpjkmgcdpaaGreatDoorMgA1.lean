/- Several texts as one. -/
import Derived.Test.YtndglpjkmgcdpaaGreatDoorMgX
import Derived.Test.YtndglpjkmgcdpaaGreatDoorWrC
import Derived.Test.YtndglpjkmgcdpaaGreatDoorMfB
import Derived.Test.YtndglpjkmgcdpaaGreatDoorMgT
/-
  sheet: bodies that were printed are read back, with anything around; cut short they are shut (plain).
-/
set_option linter.unusedVariables false
set_option linter.unusedSimpArgs false
namespace Go.Proofs.YtndglpjkmgcdpaaGreatDoor
open Go.RowKit Go.Shelf
namespace Sr
open Oc Tg Mf

theorem tk_on {l mk Z : List UInt8} {a : Nat} (last : Bool) (ha : a + mk.length ≤ l.length) (hl : l.drop (a + mk.length) = [13, 10] ++ Z) : tkP l a mk.length last = (false, none, a + mk.length + 2) := by
  have ht : trimL ([13, 10] ++ Z) = [13, 10] ++ Z := by
    show trimL (13 :: (10 :: Z)) = _
    rw [trimL_cons, show blankB 13 = false by decide +kernel]
    rfl
  have hlen := congrArg List.length hl
  rw [List.length_drop] at hlen
  unfold tkP
  rw [hl, ht, if_pos (by simp [Lib.hasPrefix, List.isPrefixOf])]
  congr 2
  omega
theorem part_eq (b : List UInt8) (p : Pt.P5) (R : List UInt8) : Wr.partR b p ++ R = (45 :: 45 :: b) ++ ([13, 10] ++ (Wr.headR p ++ ([13, 10] ++ (p.b ++ ([13, 10] ++ R))))) := by
  unfold Wr.partR
  simp
theorem part_sz (b : List UInt8) (p : Pt.P5) : (Wr.partR b p).length = (45 :: 45 :: b).length + 2 + (Wr.headR p).length + 2 + (p.b.length + 2) := by
  unfold Wr.partR
  simp
  omega
theorem body_cons (b : List UInt8) (p : Pt.P5) (t : List Pt.P5) : Wr.bodyR b (p :: t) = Wr.partR b p ++ Wr.bodyR b t := rfl
theorem mark_front (b : List UInt8) (t : List Pt.P5) (W : List UInt8) : (45 :: 45 :: b) <+: Wr.bodyR b t ++ ((45 :: 45 :: b) ++ W) := by
  cases t with
  | nil => exact List.prefix_append _ _
  | cons p t =>
    rw [body_cons, List.append_assoc, part_eq]
    exact List.prefix_append _ _
theorem room_of {l mk X : List UInt8} {a : Nat} (hm : mk ≠ []) (hl : l.drop a = X) (h : mk <+: X) : a + mk.length ≤ l.length := by
  have h1 := h.length_le
  rw [← hl, List.length_drop] at h1
  have : 0 < mk.length := List.length_pos_iff.2 hm
  omega
/-- One part more. -/
theorem step_full {l b R : List UInt8} {a most f : Nat} {ps : List Pt.P5} {p : Pt.P5} (h13 : no13 (45 :: 45 :: b)) (hok : Wr.okPt p = true) (hf : free (45 :: 45 :: b) p.b) (hl : l.drop a = Wr.partR b p ++ R) (hR : (45 :: 45 :: b) <+: R) (hps : ps.length ≠ most) :
    prsP l (45 :: 45 :: b) most (f + 1) ps a = prsP l (45 :: 45 :: b) most f (ps ++ [p]) (a + (Wr.partR b p).length) ∧ l.drop (a + (Wr.partR b p).length) = R := by
  have hm : (45 :: 45 :: b : List UInt8) ≠ [] := by simp
  have hd : l.drop (a + (Wr.partR b p).length) = R := by rw [← List.drop_drop, hl, List.drop_left]
  refine ⟨?_, hd⟩
  rw [part_eq] at hl
  have hr := room_of hm hl (List.prefix_append _ _)
  have h1 : l.drop (a + (45 :: 45 :: b : List UInt8).length) = [13, 10] ++ (Wr.headR p ++ ([13, 10] ++ (p.b ++ ([13, 10] ++ R)))) := by rw [← List.drop_drop, hl, List.drop_left]
  have h2 : l.drop (a + (45 :: 45 :: b : List UInt8).length + 2) = Wr.headR p ++ ([13, 10] ++ (p.b ++ ([13, 10] ++ R))) := by rw [← List.drop_drop, h1]; rfl
  have hr2 : a + (45 :: 45 :: b : List UInt8).length + 2 ≤ l.length := by
    have := congrArg List.length h1
    rw [List.length_drop] at this
    simp at this ⊢
    omega
  have hp := prt_full hr2 h13 hm hok hf h2 hR
  rw [prsP, tk_on _ hr h1, if_neg (by simp), if_neg (by simp), if_neg hps]
  dsimp only
  rw [hp, if_neg (by simp), part_sz]
  dsimp only
  congr 1
  omega
/-- All parts, and the last mark. -/
theorem prs_all {l b Y : List UInt8} {most : Nat} (h13 : no13 (45 :: 45 :: b)) (hY : Y = [] ∨ ∃ y, Y = [13, 10] ++ y) : ∀ (t : List Pt.P5) (ps : List Pt.P5) (a f : Nat), (∀ p ∈ t, Wr.okPt p = true ∧ free (45 :: 45 :: b) p.b) → l.drop a = Wr.bodyR b t ++ ((45 :: 45 :: b) ++ ([45, 45] ++ Y)) → 0 < ps.length + t.length → ps.length + t.length ≤ most → t.length + 1 ≤ f → prsP l (45 :: 45 :: b) most f ps a = (ps ++ t, none)
  | [], ps, a, 0, _, _, _, _, h => by simp at h
  | [], ps, a, f + 1, _, hl, h0, hmost, _ => by
    have hl2 : l.drop (a + (45 :: 45 :: b : List UInt8).length) = [45, 45] ++ Y := by
      rw [← List.drop_drop, hl]
      show List.drop _ ((45 :: 45 :: b) ++ _) = _
      rw [List.drop_left]
    have hd : decide (0 < ps.length) = true := decide_eq_true (by simpa using h0)
    have ht := tk_done l a (45 :: 45 :: b : List UInt8).length (decide (0 < ps.length)) _ hl2 hd (by simp [Lib.hasPrefix, List.isPrefixOf]) (by
      rcases hY with rfl | ⟨y, rfl⟩
      · exact .inl rfl
      · exact .inr (by simp [Lib.hasPrefix, List.isPrefixOf]))
    rw [prsP, ht, if_neg (by simp), if_pos rfl, List.append_nil]
  | p :: t, ps, a, 0, _, _, _, _, h => by simp at h
  | p :: t, ps, a, f + 1, hp, hl, h0, hmost, hf => by
    obtain ⟨k1, k2⟩ := hp p (by simp)
    rw [List.length_cons] at hmost hf
    rw [body_cons, List.append_assoc] at hl
    obtain ⟨e1, e2⟩ := step_full (f := f) (most := most) (ps := ps) h13 k1 k2 hl (mark_front b t _) (by omega)
    rw [e1, prs_all h13 hY t (ps ++ [p]) _ f (fun q hq => hp q (by simp [hq])) e2 (by simp; omega) (by simp; omega) (by omega)]
    simp
/-- More parts than are wanted. -/
theorem prs_more {l b Y : List UInt8} {most : Nat} (h13 : no13 (45 :: 45 :: b)) : ∀ (t : List Pt.P5) (ps : List Pt.P5) (a f : Nat), (∀ p ∈ t, Wr.okPt p = true ∧ free (45 :: 45 :: b) p.b) → l.drop a = Wr.bodyR b t ++ ((45 :: 45 :: b) ++ Y) → ps.length ≤ most → most < ps.length + t.length → t.length + 1 ≤ f → ∃ x, prsP l (45 :: 45 :: b) most f ps a = ([], some (x, 153))
  | [], ps, a, f, _, _, h1, h2, _ => by simp at h2; omega
  | p :: t, ps, a, 0, _, _, _, _, h => by simp at h
  | p :: t, ps, a, f + 1, hp, hl, h1, h2, hf => by
    obtain ⟨k1, k2⟩ := hp p (by simp)
    rw [List.length_cons] at h2 hf
    rw [body_cons, List.append_assoc] at hl
    by_cases hps : ps.length = most
    · have hm : (45 :: 45 :: b : List UInt8) ≠ [] := by simp
      rw [part_eq] at hl
      have hr := room_of hm hl (List.prefix_append _ _)
      have h3 : l.drop (a + (45 :: 45 :: b : List UInt8).length) = [13, 10] ++ (Wr.headR p ++ ([13, 10] ++ (p.b ++ ([13, 10] ++ (Wr.bodyR b t ++ ((45 :: 45 :: b) ++ Y)))))) := by rw [← List.drop_drop, hl, List.drop_left]
      rw [prsP, tk_on _ hr h3, if_neg (by simp), if_neg (by simp), if_pos hps]
      exact ⟨_, rfl⟩
    · obtain ⟨e1, e2⟩ := step_full (f := f) (most := most) (ps := ps) h13 k1 k2 hl (mark_front b t _) hps
      rw [e1]
      exact prs_more h13 t (ps ++ [p]) _ f (fun q hq => hp q (by simp [hq])) e2 (by simp; omega) (by simp; omega) (by omega)
theorem short2 {c d : UInt8} {Y : List UInt8} (h : Y <+: [c, d]) (hl : Y.length < 2) : Y = [] ∨ Y = [c] := by
  match Y, h, hl with
  | [], _, _ => exact .inl rfl
  | [x], h, _ => right; obtain ⟨t, ht⟩ := h; simp at ht; rw [ht.1]
  | x :: y :: z, _, hl => simp at hl; omega
/-- Cut short. -/
theorem prs_cut {l b : List UInt8} {most : Nat} (h13 : no13 (45 :: 45 :: b)) : ∀ (t : List Pt.P5) (ps : List Pt.P5) (a f : Nat) (X : List UInt8), (∀ p ∈ t, Wr.okPt p = true ∧ free (45 :: 45 :: b) p.b) → l.drop a = X → (45 :: 45 :: b) <+: X → X <+: Wr.bodyR b t ++ ((45 :: 45 :: b) ++ [45, 45]) → X.length < (Wr.bodyR b t ++ ((45 :: 45 :: b) ++ [45, 45])).length → 0 < ps.length + t.length → ps.length + t.length ≤ most → t.length + 1 ≤ f → prsP l (45 :: 45 :: b) most f ps a = ([], some ((l.length : Int), 154))
  | [], ps, a, 0, X, _, _, _, _, _, _, _, h => by simp at h
  | [], ps, a, f + 1, X, _, hl, hmx, hx, hlen, h0, _, _ => by
    obtain ⟨Y, rfl⟩ := hmx
    have hY : Y <+: [45, 45] := (List.prefix_append_right_inj _).1 hx
    have hd : decide (0 < ps.length) = true := decide_eq_true (by simpa using h0)
    have h2 : l.drop (a + (45 :: 45 :: b : List UInt8).length) = Y := by rw [← List.drop_drop, hl, List.drop_left]
    have hYl : Y.length < 2 := by
      have hh := hlen
      simp only [Wr.bodyR, List.flatMap_nil, List.nil_append, List.length_append, List.length_cons, List.length_nil] at hh
      omega
    have ht : tkP l a (45 :: 45 :: b : List UInt8).length (decide (0 < ps.length)) = (false, some ((l.length : Int), 154), a) := by
      rcases short2 hY hYl with rfl | rfl
      · exact tk_shut2 l a _ _ _ h2 (by rintro ⟨_, h⟩; revert h; decide) (.inl (by unfold tailR; rw [if_pos (.inl rfl)]))
      · exact tk_shut2 l a _ _ _ h2 (by rintro ⟨_, h⟩; revert h; decide) (.inr ⟨hd, rfl⟩)
    rw [prsP, ht, if_pos (by simp)]
  | p :: t, ps, a, 0, X, _, _, _, _, _, _, _, h => by simp at h
  | p :: t, ps, a, f + 1, X, hp, hl, hmx, hx, hlen, h0, hmost, hf => by
    obtain ⟨k1, k2⟩ := hp p (by simp)
    have hm : (45 :: 45 :: b : List UInt8) ≠ [] := by simp
    rw [List.length_cons] at hmost hf
    have hr := room_of hm hl hmx
    obtain ⟨Y, rfl⟩ := hmx
    rw [body_cons, List.append_assoc] at hx hlen
    have hR := mark_front b t [45, 45]
    generalize hRe : Wr.bodyR b t ++ ((45 :: 45 :: b) ++ [45, 45]) = R at *
    have hx0 := hx
    rw [part_eq] at hx
    have hY := (List.prefix_append_right_inj _).1 hx
    have h2 : l.drop (a + (45 :: 45 :: b : List UInt8).length) = Y := by rw [← List.drop_drop, hl, List.drop_left]
    rcases pre_split hY with ⟨h3, h4⟩ | ⟨X2, rfl, h3⟩
    · have ht : tkP l a (45 :: 45 :: b : List UInt8).length (decide (0 < ps.length)) = (false, some ((l.length : Int), 154), a) := by
        rcases short2 h3 (by simpa using h4) with rfl | rfl
        · exact tk_shut2 l a _ _ _ h2 (by rintro ⟨_, h⟩; revert h; decide) (.inl (by unfold tailR; rw [if_pos (.inl rfl)]))
        · exact tk_shut2 l a _ _ _ h2 (by rintro ⟨_, h⟩; revert h; decide) (.inl (by unfold tailR; rw [if_pos (.inr (by rw [trimL_cons, show blankB 13 = false by decide +kernel]; rfl))]))
      rw [prsP, ht, if_pos (by simp)]
    · have h5 : l.drop (a + (45 :: 45 :: b : List UInt8).length + 2) = X2 := by rw [← List.drop_drop, h2]; rfl
      have hr2 : a + (45 :: 45 :: b : List UInt8).length + 2 ≤ l.length := by
        have := congrArg List.length h2
        rw [List.length_drop] at this
        simp at this ⊢
        omega
      rcases Nat.lt_or_ge X2.length ((Wr.headR p).length + 2 + (p.b.length + 2) + (45 :: 45 :: b : List UInt8).length) with hs | hs
      · have hc := prt_cut hr2 h13 hm k1 k2 h5 h3 hs
        rw [prsP, tk_on _ hr h2, if_neg (by simp), if_neg (by simp), if_neg (by omega)]
        dsimp only
        rw [hc, if_pos (by simp)]
      · have h3' : X2 <+: (Wr.headR p ++ ([13, 10] ++ (p.b ++ [13, 10]))) ++ R := by simpa using h3
        rcases pre_split h3' with ⟨_, h7⟩ | ⟨X4, rfl, h7⟩
        · exfalso
          simp at h7 hs
          omega
        · have hm4 : (45 :: 45 :: b) <+: X4 := List.prefix_of_prefix_length_le hR h7 (by simp at hs ⊢; omega)
          have hl4 : l.drop a = Wr.partR b p ++ X4 := by rw [hl, part_eq]; simp
          obtain ⟨e1, e2⟩ := step_full (f := f) (most := most) (ps := ps) h13 k1 k2 hl4 hm4 (by omega)
          rw [e1]
          exact prs_cut h13 t (ps ++ [p]) _ f X4 (fun q hq => hp q (by simp [hq])) e2 hm4 (by rw [hRe]; exact h7) (by rw [hRe]; have hq := part_sz b p; have hl5 := hlen; simp only [List.length_append, List.length_cons, List.length_nil] at hl5 hq ⊢; omega) (by simp; omega) (by simp; omega) (by omega)

/-- More fuel changes nothing. -/
theorem prs_fuel (l mk : List UInt8) (most : Nat) : ∀ (f f' : Nat) (ps : List Pt.P5) (a : Nat), a + mk.length ≤ l.length → l.length + 1 ≤ f + a → l.length + 1 ≤ f' + a → prsP l mk most f ps a = prsP l mk most f' ps a
  | 0, _, _, _, h1, h2, _ => by omega
  | _, 0, _, _, h1, _, h2 => by omega
  | f + 1, f' + 1, ps, a, h1, h2, h3 => by
    rw [prsP, prsP]
    split
    · rfl
    · rename_i k1
      have k1' : (tkP l a mk.length (decide (0 < ps.length))).2.1 = none := by simpa using k1
      split
      · rfl
      · rename_i k2
        have k2' : (tkP l a mk.length (decide (0 < ps.length))).1 = false := by simpa using k2
        obtain ⟨t1, t2⟩ := tkP_in l a mk.length _ h1 k1' k2'
        split
        · rfl
        · split
          · rfl
          · rename_i k4
            have k4' : (prtP l mk (tkP l a mk.length (decide (0 < ps.length))).2.2).2.1 = none := by simpa using k4
            have hi := prtP_in l mk _ t2 k4'
            exact prs_fuel l mk most f f' _ _ hi.2 (by omega) (by omega)

/-- What Print writes. -/
def bodyS (b : List UInt8) (t : List Pt.P5) : List UInt8 := Wr.bodyR b t ++ Wr.endR b
/-- What is printed, with a boundary that stands nowhere in it. -/
structure Good (b : List UInt8) (t : List Pt.P5) : Prop where
  bnd : bndR b = true
  ne : t ≠ []
  ok : ∀ p ∈ t, Wr.okPt p = true ∧ free (45 :: 45 :: b) p.b
theorem bnd_13 {b : List UInt8} (h : bndR b = true) : no13 (45 :: 45 :: b) := by
  unfold bndR at h
  rw [Bool.and_eq_true] at h
  have ha := List.all_eq_true.1 h.1
  intro c hc
  rcases List.mem_cons.1 hc with rfl | hc
  · decide
  · rcases List.mem_cons.1 hc with rfl | hc
    · decide
    · intro e
      have := ha c hc
      rw [e] at this
      revert this
      decide +kernel
theorem body_ge (b : List UInt8) : ∀ t : List Pt.P5, t.length ≤ (Wr.bodyR b t).length
  | [] => Nat.zero_le _
  | p :: t => by
    have := body_ge b t
    rw [body_cons, List.length_append, part_sz, List.length_cons]
    omega
theorem bodyS_eq (b : List UInt8) (t : List Pt.P5) (Y : List UInt8) : bodyS b t ++ Y = Wr.bodyR b t ++ ((45 :: 45 :: b) ++ ([45, 45] ++ ([13, 10] ++ Y))) := by
  unfold bodyS Wr.endR
  simp
theorem pre_at {l mk : List UInt8} (h : mk <+: l) : preP l mk = (none, 0) := by
  unfold preP
  rw [if_pos (show Lib.hasPrefix l mk = true from List.isPrefixOf_iff_prefix.2 h)]
theorem par_of {b l : List UInt8} {most : Int} {R : List Pt.P5 × Option (Int × Int)} {a : Nat} (hb : bndR b = true) (hm : 1 ≤ most) (hp : preP l (45 :: 45 :: b) = (none, a)) (k : Nat) (hk : most = (k : Int)) (hr : prsP l (45 :: 45 :: b) k (l.length + 1) [] a = R) : parR b l most = (R.1, errN R.2) := by
  unfold parR
  rw [if_neg (by rw [hb]; decide), if_neg (by omega)]
  subst hk
  have : allP l ([45, 45] ++ b) (k : Int).toNat = R := by
    show allP l (45 :: 45 :: b) (k : Int).toNat = R
    rw [Int.toNat_natCast]
    unfold allP
    rw [hp, if_neg (by simp)]
    exact hr
  rw [this]
/-- Read back, with whatever stands behind a line end. -/
theorem par_all {b : List UInt8} {t : List Pt.P5} (h : Good b t) (l Y : List UInt8) (a : Nat) (most : Nat) (hmost : t.length ≤ most) (hY : Y = [] ∨ ∃ y, Y = [13, 10] ++ y) (hp : preP l (45 :: 45 :: b) = (none, a)) (hl : l.drop a = Wr.bodyR b t ++ ((45 :: 45 :: b) ++ ([45, 45] ++ Y))) : parR b l (most : Int) = (t, 0, 0) := by
  have hpos : 0 < t.length := List.length_pos_iff.2 h.ne
  have hlen := congrArg List.length hl
  rw [List.length_drop, List.length_append] at hlen
  have := body_ge b t
  have hr := prs_all (l := l) (most := most) (bnd_13 h.bnd) hY t [] a (l.length + 1) h.ok hl (by simpa using hpos) (by simpa using hmost) (by omega)
  rw [par_of h.bnd (by omega) hp most rfl hr]
  rfl
theorem par_less {b : List UInt8} {t : List Pt.P5} (h : Good b t) (most : Nat) (h1 : 1 ≤ most) (hmost : most < t.length) : (parR b (bodyS b t) (most : Int)).1 = [] ∧ (parR b (bodyS b t) (most : Int)).2.2 = 153 := by
  have hl : (bodyS b t).drop 0 = Wr.bodyR b t ++ ((45 :: 45 :: b) ++ ([45, 45] ++ [13, 10])) := by
    have := bodyS_eq b t []
    simpa using this
  have hf : (45 :: 45 :: b) <+: bodyS b t := by
    have := mark_front b t ([45, 45] ++ [13, 10])
    rw [← hl] at this
    exact this
  have hlen := congrArg List.length hl
  rw [List.length_drop, List.length_append] at hlen
  have := body_ge b t
  obtain ⟨x, hr⟩ := prs_more (l := bodyS b t) (most := most) (bnd_13 h.bnd) t [] 0 ((bodyS b t).length + 1) h.ok hl (Nat.zero_le _) (by simpa using hmost) (by omega)
  rw [par_of h.bnd (by omega) (pre_at hf) most rfl hr]
  exact ⟨rfl, rfl⟩
theorem par_own {b : List UInt8} {t : List Pt.P5} (h : Good b t) : parR b (bodyS b t) (t.length : Int) = (t, 0, 0) := by
  have hl : (bodyS b t).drop 0 = Wr.bodyR b t ++ ((45 :: 45 :: b) ++ ([45, 45] ++ [13, 10])) := by
    have := bodyS_eq b t []
    simpa using this
  have hf : (45 :: 45 :: b) <+: bodyS b t := by
    have := mark_front b t ([45, 45] ++ [13, 10])
    rw [← hl] at this
    exact this
  exact par_all h _ [13, 10] 0 t.length (Nat.le_refl _) (.inr ⟨[], rfl⟩) (pre_at hf) hl
theorem par_more {b : List UInt8} {t : List Pt.P5} (h : Good b t) (A Z : List UInt8) (hA : free (45 :: 45 :: b) A) : parR b (A ++ ([13, 10] ++ (bodyS b t ++ Z))) (((t.length + 3 : Nat)) : Int) = (t, 0, 0) := by
  have hm : (45 :: 45 :: b : List UInt8) ≠ [] := by simp
  have hf : (45 :: 45 :: b) <+: bodyS b t ++ Z := by rw [bodyS_eq]; exact mark_front b t _
  have hp : preP (A ++ ([13, 10] ++ (bodyS b t ++ Z))) (45 :: 45 :: b) = (none, A.length + 2) := by
    unfold preP
    rw [if_neg (by rw [free_front (bnd_13 h.bnd) hA (Y := 10 :: (bodyS b t ++ Z)) (X := A ++ ([13, 10] ++ (bodyS b t ++ Z))) ⟨[], by simp⟩]; decide), byt_full (bnd_13 h.bnd) hm hA hf]
  refine par_all h _ ([13, 10] ++ Z) (A.length + 2) (t.length + 3) (by omega) (.inr ⟨Z, rfl⟩) hp ?_
  rw [← bodyS_eq, show A.length + 2 = (A ++ [13, 10]).length by simp, ← List.append_assoc, List.drop_left]
/-- Cut short: told where it ends. -/
theorem par_cut {b : List UInt8} {t : List Pt.P5} (h : Good b t) (k : Nat) (hk : k + 2 < (bodyS b t).length) : parR b ((bodyS b t).take k) (t.length : Int) = ([], (k : Int), 154) := by
  have hpos : 0 < t.length := List.length_pos_iff.2 h.ne
  have hm : (45 :: 45 :: b : List UInt8) ≠ [] := by simp
  have e : bodyS b t = (Wr.bodyR b t ++ ((45 :: 45 :: b) ++ [45, 45])) ++ [13, 10] := by unfold bodyS Wr.endR; simp
  have hz : (Wr.bodyR b t ++ ((45 :: 45 :: b) ++ [45, 45])).length + 2 = (bodyS b t).length := by rw [e]; simp only [List.length_append, List.length_cons, List.length_nil]
  have hkl : ((bodyS b t).take k).length = k := by rw [List.length_take]; omega
  have hx : (bodyS b t).take k <+: Wr.bodyR b t ++ ((45 :: 45 :: b) ++ [45, 45]) := List.prefix_of_prefix_length_le (List.take_prefix _ _) (by rw [e]; exact List.prefix_append _ _) (by omega)
  have hR := mark_front b t [45, 45]
  generalize (bodyS b t).take k = X at *
  subst hkl
  rcases Nat.lt_or_ge X.length (45 :: 45 :: b : List UInt8).length with hs | hs
  · have hnp : Lib.hasPrefix X (45 :: 45 :: b) = false := by
      cases hh : Lib.hasPrefix X (45 :: 45 :: b) with
      | false => rfl
      | true =>
        have := (List.isPrefixOf_iff_prefix.1 hh).length_le
        omega
    have hby : bytP X (45 :: 45 :: b) X.length = ([], some ((X.length : Int), 154), 0) := by
      unfold bytP
      rw [cut_past (by simp) (noOcc_zero _ _) (by simp at hs ⊢; omega), if_neg (by simp)]
    unfold parR
    rw [if_neg (by rw [h.bnd]; decide), if_neg (by omega)]
    have : allP X ([45, 45] ++ b) (t.length : Int).toNat = ([], some ((X.length : Int), 154)) := by
      show allP X (45 :: 45 :: b) (t.length : Int).toNat = _
      have hpp : preP X (45 :: 45 :: b) = (some ((X.length : Int), 154), 0) := by unfold preP; rw [if_neg (by rw [hnp]; decide), hby]
      unfold allP
      rw [hpp, if_pos (by simp)]
    rw [this]
    rfl
  · have hmx : (45 :: 45 :: b) <+: X := List.prefix_of_prefix_length_le hR hx hs
    have hge := body_ge b t
    have hfu : t.length + 1 ≤ X.length + 1 ∨ X.length < t.length := by omega
    have hr := prs_cut (l := X) (most := t.length) (bnd_13 h.bnd) t [] 0 (X.length + 1 + t.length) X h.ok rfl hmx hx (by omega) (by simpa using hpos) (by simp) (by omega)
    rw [par_of h.bnd (by omega) (pre_at hmx) t.length rfl ((prs_fuel X _ t.length (X.length + 1) (X.length + 1 + t.length) [] 0 (by omega) (by omega) (by omega)).trans hr)]
    rfl
theorem par_shut {b : List UInt8} {t : List Pt.P5} (h : Good b t) (k : Nat) (hk : k + 2 = (bodyS b t).length) : (parR b ((bodyS b t).take k) (t.length : Int)).2.2 = 0 := by
  have e : bodyS b t = (Wr.bodyR b t ++ ((45 :: 45 :: b) ++ [45, 45])) ++ [13, 10] := by unfold bodyS Wr.endR; simp
  have hz : (Wr.bodyR b t ++ ((45 :: 45 :: b) ++ [45, 45])).length = k := by rw [e, List.length_append] at hk; simp only [List.length_cons, List.length_nil] at hk; omega
  have ht : (bodyS b t).take k = Wr.bodyR b t ++ ((45 :: 45 :: b) ++ [45, 45]) := by rw [e, ← hz, List.take_left]
  rw [ht, par_all h _ [] 0 t.length (Nat.le_refl _) (.inl rfl) (pre_at (mark_front b t _)) (by simp)]

end Sr
end Go.Proofs.YtndglpjkmgcdpaaGreatDoor

/-
  sheet: what Print and Boundary answer, as the laws SheetCut and SheetBack want it; the law SheetCut walked.
-/
set_option linter.unusedVariables false
set_option linter.unusedSimpArgs false
namespace Go.Proofs.YtndglpjkmgcdpaaGreatDoor
open Go.RowKit Go.Shelf
namespace Sr
open Oc Tg Mf

theorem free_of {mk B : List UInt8} (hm : mk ≠ []) (h : Lib.contains B mk = false) : free mk B := fun i => by
  cases ho : Lib.occAt B mk i with
  | false => rfl
  | true => rw [(contains_iff B mk hm).2 ⟨i, ho⟩] at h; cases h
theorem full_cases (b : List UInt8) (t : List Pt.P5) : (Wr.fullR b t = (bodyS b t, 0) ∧ Good b t) ∨ ((Wr.fullR b t).2 ≠ 0 ∧ (Wr.fullR b t).1 = []) := by
  unfold Wr.fullR
  split
  · exact .inr ⟨by decide, rfl⟩
  · rename_i h1
    split
    · exact .inr ⟨by decide, rfl⟩
    · rename_i h2
      unfold Wr.prtR
      split
      · rename_i h3
        refine .inl ⟨rfl, ⟨?_, h2, fun p hp => ⟨List.all_eq_true.1 h3 p hp, ?_⟩⟩⟩
        · cases hb : bndR b with
          | true => rfl
          | false => exact absurd (.inl hb) h1
        · refine free_of (by simp) ?_
          cases hc : Lib.contains p.b (45 :: 45 :: b) with
          | false => rfl
          | true =>
            exfalso
            refine h1 (.inr ?_)
            unfold standsR
            rw [List.any_eq_true]
            exact ⟨p, hp, by unfold inP; rw [hc]; rfl⟩
      · exact .inr ⟨by decide, rfl⟩
theorem bodyS_len (b : List UInt8) (t : List Pt.P5) (hb : b.length ≤ 40) (ht : t.length + Pt.sumT t ≤ 1048576) : (bodyS b t).length ≤ 200000000 := by
  have h1 := Wr.body_len b t
  have h2 : t.length * (b.length + 120) ≤ 1048576 * 160 := Nat.mul_le_mul (by omega) (by omega)
  unfold bodyS Wr.endR
  simp
  omega
theorem form_len (N : Nat) (h : N ≤ 1048576) : (Mf.formL ++ D N).length ≤ 40 := by
  have := itoa_len N h
  rw [itoaD] at this
  simp [Mf.formL]
  omega
theorem take_ext (l : List UInt8) (k : Nat) : (str l).extract 0 k = str (l.take k) := by
  apply eq_list
  rw [Mf.ext_list2, str_list, str_list]
  simp

set_option maxRecDepth 100000 in
set_option maxHeartbeats 1000000 in
theorem walk_SheetCut (v : Value) (t : List Pt.P5) (hb : t.length + Pt.sumT t ≤ 1048576) (x : Int) (hx : x < 9223372036854775808) (hx2 : -9223372036854775808 ≤ x) (w : World) (hr : Pt.RdT v t w) (htb : Tab w) (hm : ML w) (hp : Pow w) (hg : Er.Gw w) (hw1 : 1 + 1 ≤ w.heap.size) :
    Calls Tryz.prog 5 #[v, .int .i64 x] w fun e w' => e = .returned (.bool true) ∧ Below w.heap.size w w' := by
  obtain ⟨N, hN, hfree, hall⟩ := first_freeL (txs t)
  rw [txs_sum] at hN
  have HBd : Hid (Calls _ _ _ w _) := Boundary_any v t hb N hN hfree hall w hr hm hp hw1
  have hbl := form_len N (by omega)
  clear hfree hall
  generalize Mf.formL ++ D N = b at *
  have HPr : Hid (∀ W, Pt.RdT v t W → ML W → Tab W → Calls _ _ _ W _) := fun W h h1 h2 => Wr.Print15_any b v t (by omega) hb W h h1 h2
  have HA : Hid (∀ W, ML W → Calls _ _ _ W _) := fun W h => awake15_any W h
  have HRd : Hid (Pt.RdT v t w) := hr
  have HM : Hid (ML w) := hm
  have HT : Hid (Tab w) := htb
  have hsl := bodyS_len b t hbl hb
  have HPa : Hid (∀ (l : List UInt8) W, l.length ≤ 200000000 → Below w.heap.size w W → Calls Tryz.prog 12 #[.string (str b), .string (str l), .int .i64 (t.length : Int)] W fun e w' => ∃ lv, e = .returned (.tuple #[lv, .int .i64 (parR b l (t.length : Int)).2.1, .int .i64 (parR b l (t.length : Int)).2.2]) ∧ Pt.OwnT 41 W.heap.size lv (parR b l (t.length : Int)).1 w' ∧ Below W.heap.size W w') := fun l W hl bl => by
    have := Parse_any (str b) (str l) (t.length : Int) (by rw [str_size]; omega) (by rw [str_size]; omega) (by omega) W (htb.below bl (Nat.le_refl _)) (hm.below bl) ⟨htb.below bl (Nat.le_refl _), hm.below bl⟩ (hg.below bl)
    rw [str_list, str_list] at this
    exact this
  obtain ⟨va, vc, rfl, _⟩ := hr
  clear hm htb hg hp hw1
  rcases full_cases b t with ⟨hF, hG⟩ | ⟨hF2, hF1⟩
  · have HCut : Hid (∀ k : Nat, k + 2 < (bodyS b t).length → parR b ((bodyS b t).take k) (t.length : Int) = ([], (k : Int), 154)) := fun k hk => par_cut hG k hk
    have HSh : Hid (∀ k : Nat, k + 2 = (bodyS b t).length → (parR b ((bodyS b t).take k) (t.length : Int)).2.2 = 0) := fun k hk => par_shut hG k hk
    rw [hF] at HPr
    dsimp only at HPr
    have hz : (str (bodyS b t)).size = (bodyS b t).length := str_size _
    have HX : Hid (∀ k, (str (bodyS b t)).extract 0 k = str ((bodyS b t).take k)) := fun k => take_ext _ k
    clear hF hG
    have HTl : Hid (∀ k, ((bodyS b t).take k).length ≤ 200000000) := fun k => by rw [List.length_take]; omega
    generalize bodyS b t = S at *
    obtain ⟨z, hzl⟩ : ∃ z, S.length = z := ⟨_, rfl⟩
    rw [hzl] at hz hsl
    have HCut2 : Hid (∀ k : Nat, k + 2 < z → _) := fun k hk => HCut.out k (by omega)
    have HSh2 : Hid (∀ k : Nat, k + 2 = z → _) := fun k hk => HSh.out k (by omega)
    clear hzl HCut HSh
    generalize str S = SS at *
    by_cases hin : 0 ≤ x ∧ x + 2 ≤ (z : Int)
    · obtain ⟨k, rfl⟩ : ∃ k : Nat, x = (k : Int) := ⟨x.toNat, by omega⟩
      have hex := HX.out k
      have HPk : Hid (∀ W, Below w.heap.size w W → Calls _ _ _ W _) := fun W bl => HPa.out (S.take k) W (HTl.out k) bl
      have q1 : decide ((k : Int) < 0) = false := by simp
      have q2 : decide ((z : Int) - 2 < (k : Int)) = false := by simp; omega
      have hkz : (k : Int) ≤ (z : Int) := by omega
      by_cases he : k + 2 = z
      · have h0 := HSh2.out k he
        have q3 : ((k : Int) == (z : Int) - 2) = true := by simp; omega
        generalize str (S.take k) = SK at *
        generalize parR b (S.take k) (t.length : Int) = R at *
        obtain ⟨R1, R2, R3⟩ := R
        dsimp only at h0 HPk
        subst h0
        clear HCut2 HSh2 HX HTl HPa
        go_enter Tryz.func5, Tryz.ntmps5
        go_wp2_with fail
        refine HBd.out.mono ?_
        rintro e w1 ⟨rfl, hb1⟩
        have HB1 : Hid (Below w.heap.size w w1) := hb1
        clear hb1
        go_wp2_with fail
        refine (HPr.out _ (HRd.out.below HB1.out) (HM.out.below HB1.out) (HT.out.below HB1.out (Nat.le_refl _))).mono ?_
        rintro e w2 ⟨rfl, hb2⟩
        have HB2 : Hid (Below w.heap.size w w2) := bel_trans HB1.out hb2
        clear hb2
        go_wp2_with fail
        refine (HPk.out _ HB2.out).mono ?_
        rintro e w3 ⟨lv, rfl, o3, hb3⟩
        have HB3 : Hid (Below w.heap.size w w3) := bel_trans HB2.out hb3
        clear hb3 o3
        go_wp2_with fail
        refine (HA.out _ (HM.out.below HB3.out)).mono ?_
        rintro e w4 ⟨rfl, hb4⟩
        have HB4 : Hid (Below w.heap.size w w4) := bel_trans HB3.out hb4
        clear hb4
        go_wp2
        go_ret
        exact ⟨rfl, HB4.out⟩
      · have h0 := HCut2.out k (by omega)
        have q3 : ((k : Int) == (z : Int) - 2) = false := by simp; omega
        rw [h0] at HPk
        dsimp only at HPk
        generalize str (S.take k) = SK at *
        clear HCut2 HSh2 HX HTl HPa h0
        go_enter Tryz.func5, Tryz.ntmps5
        go_wp2_with fail
        refine HBd.out.mono ?_
        rintro e w1 ⟨rfl, hb1⟩
        have HB1 : Hid (Below w.heap.size w w1) := hb1
        clear hb1
        go_wp2_with fail
        refine (HPr.out _ (HRd.out.below HB1.out) (HM.out.below HB1.out) (HT.out.below HB1.out (Nat.le_refl _))).mono ?_
        rintro e w2 ⟨rfl, hb2⟩
        have HB2 : Hid (Below w.heap.size w w2) := bel_trans HB1.out hb2
        clear hb2
        go_wp2_with fail
        refine (HPk.out _ HB2.out).mono ?_
        rintro e w3 ⟨lv, rfl, o3, hb3⟩
        have HB3 : Hid (Below w.heap.size w w3) := bel_trans HB2.out hb3
        obtain ⟨a3, c3, rfl, _⟩ := o3.rd
        clear hb3 o3
        go_wp2_with fail
        refine (HA.out _ (HM.out.below HB3.out)).mono ?_
        rintro e w4 ⟨rfl, hb4⟩
        have HB4 : Hid (Below w.heap.size w w4) := bel_trans HB3.out hb4
        clear hb4
        go_wp2
        go_ret
        exact ⟨rfl, HB4.out⟩
    · clear HCut2 HSh2 HX HTl HPa
      have HW : Hid ((x < 0) ∨ (z : Int) - 2 < x) := by
        show (x < 0) ∨ (z : Int) - 2 < x
        omega
      by_cases q1 : x < 0
      · have q1' : decide (x < 0) = true := by simpa using q1
        go_enter Tryz.func5, Tryz.ntmps5
        go_wp2_with fail
        refine HBd.out.mono ?_
        rintro e w1 ⟨rfl, hb1⟩
        have HB1 : Hid (Below w.heap.size w w1) := hb1
        clear hb1
        go_wp2_with fail
        refine (HPr.out _ (HRd.out.below HB1.out) (HM.out.below HB1.out) (HT.out.below HB1.out (Nat.le_refl _))).mono ?_
        rintro e w2 ⟨rfl, hb2⟩
        have HB2 : Hid (Below w.heap.size w w2) := bel_trans HB1.out hb2
        clear hb2
        go_wp2_with fail
        refine (HA.out _ (HM.out.below HB2.out)).mono ?_
        rintro e w4 ⟨rfl, hb4⟩
        have HB4 : Hid (Below w.heap.size w w4) := bel_trans HB2.out hb4
        clear hb4
        go_wp2
        go_ret
        exact ⟨rfl, HB4.out⟩
      · have q1' : decide (x < 0) = false := by simpa using q1
        have q2 : decide ((z : Int) - 2 < x) = true := by simp; exact HW.out.resolve_left q1
        go_enter Tryz.func5, Tryz.ntmps5
        go_wp2_with fail
        refine HBd.out.mono ?_
        rintro e w1 ⟨rfl, hb1⟩
        have HB1 : Hid (Below w.heap.size w w1) := hb1
        clear hb1
        go_wp2_with fail
        refine (HPr.out _ (HRd.out.below HB1.out) (HM.out.below HB1.out) (HT.out.below HB1.out (Nat.le_refl _))).mono ?_
        rintro e w2 ⟨rfl, hb2⟩
        have HB2 : Hid (Below w.heap.size w w2) := bel_trans HB1.out hb2
        clear hb2
        go_wp2_with fail
        refine (HA.out _ (HM.out.below HB2.out)).mono ?_
        rintro e w4 ⟨rfl, hb4⟩
        have HB4 : Hid (Below w.heap.size w w4) := bel_trans HB2.out hb4
        clear hb4
        go_wp2
        go_ret
        exact ⟨rfl, HB4.out⟩
  · generalize Wr.fullR b t = FR at *
    obtain ⟨F1, F2⟩ := FR
    dsimp only at HPr hF2
    generalize str F1 = FS at *
    have q0 : (F2 != 0) = true := by simp [hF2]
    clear HPa hF1
    go_enter Tryz.func5, Tryz.ntmps5
    go_wp2_with fail
    refine HBd.out.mono ?_
    rintro e w1 ⟨rfl, hb1⟩
    have HB1 : Hid (Below w.heap.size w w1) := hb1
    clear hb1
    go_wp2_with fail
    refine (HPr.out _ (HRd.out.below HB1.out) (HM.out.below HB1.out) (HT.out.below HB1.out (Nat.le_refl _))).mono ?_
    rintro e w2 ⟨rfl, hb2⟩
    have HB2 : Hid (Below w.heap.size w w2) := bel_trans HB1.out hb2
    clear hb2
    go_wp2_with fail
    refine (HA.out _ (HM.out.below HB2.out)).mono ?_
    rintro e w4 ⟨rfl, hb4⟩
    have HB4 : Hid (Below w.heap.size w w4) := bel_trans HB2.out hb4
    clear hb4
    go_wp2
    go_ret
    exact ⟨rfl, HB4.out⟩

end Sr
end Go.Proofs.YtndglpjkmgcdpaaGreatDoor
