/-
  span: what the document's Pieces says is what the program's says (plain).
-/
import Derived.Test.YthdfgepnadgkjaaGreatDoorPcJ
set_option linter.unusedVariables false
set_option linter.unusedSimpArgs false
namespace Go.Proofs.YthdfgepnadgkjaaGreatDoor
open Go.RowKit Go.Shelf
namespace Sn
open Oc Tg Ac

theorem f13 : fieldB 13 = false := by decide
theorem no13 {l : List UInt8} (h : isFld l = true) : ∀ x ∈ l, x ≠ 13 := by
  intro x hx e
  subst e
  have := (List.all_eq_true.1 h) 13 hx
  rw [f13] at this
  cases this
theorem index_front : ∀ (u g : List UInt8), (∀ x ∈ u, x ≠ 13) → Lib.index (u ++ g) [13, 10] = if Lib.index g [13, 10] = -1 then -1 else (u.length : Int) + Lib.index g [13, 10]
  | [], g, _ => by by_cases h : Lib.index g [13, 10] = -1 <;> simp [h]
  | b :: u, g, h => by
    have ih := index_front u g (fun x hx => h x (by simp [hx]))
    have hb : b ≠ 13 := h b (by simp)
    rw [List.cons_append, Lib.index]
    have : ([13, 10] : List UInt8).isPrefixOf (b :: (u ++ g)) = false := by
      have : ((13 : UInt8) == b) = false := by simpa using fun e => hb e.symm
      simp [List.isPrefixOf, this]
    rw [this, ih]
    have hg := Lib.index_ge g [13, 10]
    by_cases hi : Lib.index g [13, 10] = -1
    · simp [hi]
    · rw [if_neg hi, if_neg hi]
      have : ¬ ((u.length : Int) + Lib.index g [13, 10] = -1) := by omega
      simp [this]
      omega
/-- A text with no byte 13: what stands ahead of the line end is all. -/
theorem isPre_append (h x : List UInt8) : Lib.hasPrefix (h ++ x) h = true := by
  unfold Lib.hasPrefix
  exact List.isPrefixOf_iff_prefix.2 ⟨x, rfl⟩
theorem pre_of {r h : List UInt8} (e : Lib.hasPrefix r h = true) : ∃ x, r = h ++ x := by
  obtain ⟨x, hx⟩ := List.isPrefixOf_iff_prefix.1 e
  exact ⟨x, hx.symm⟩
theorem pre_not_field {r h : List UInt8} (hh : isFld h = true) (c : UInt8) (hc : c ∈ r) (hn : fieldB c = false) : Lib.hasPrefix h r = false := by
  cases e : Lib.hasPrefix h r with
  | false => rfl
  | true =>
    obtain ⟨x, rfl⟩ := pre_of e
    have := (List.all_eq_true.1 hh) c (by simp [hc])
    rw [hn] at this
    cases this
/-- A head of field bytes stands ahead of a text just if it stands ahead of its first field bytes. -/
theorem pre_field {F G h : List UInt8} (hh : isFld h = true) (hG : G = [] ∨ ∃ c t, G = c :: t ∧ fieldB c = false) : Lib.hasPrefix (F ++ G) h = Lib.hasPrefix F h := by
  cases e : Lib.hasPrefix F h with
  | true =>
    obtain ⟨x, rfl⟩ := pre_of e
    rw [List.append_assoc]
    exact isPre_append _ _
  | false =>
    cases e2 : Lib.hasPrefix (F ++ G) h with
    | false => rfl
    | true =>
      exfalso
      have hp := List.isPrefixOf_iff_prefix.1 e2
      have hF : F <+: F ++ G := ⟨G, rfl⟩
      by_cases hl : h.length ≤ F.length
      · have := List.isPrefixOf_iff_prefix.2 (List.prefix_of_prefix_length_le hp hF hl)
        unfold Lib.hasPrefix at e
        rw [this] at e
        cases e
      · obtain ⟨y, hy⟩ := List.prefix_of_prefix_length_le hF hp (by omega)
        obtain ⟨x, hx⟩ := hp
        rw [← hy, List.append_assoc] at hx
        have hyx : y ++ x = G := List.append_cancel_left hx
        cases y with
        | nil => rw [← hy] at hl; simp at hl
        | cons d y =>
          rcases hG with rfl | ⟨c, t, rfl, hc⟩
          · simp at hyx
          · have hdc : d = c := by simp at hyx; exact hyx.1
            have hd := (List.all_eq_true.1 hh) d (by rw [← hy]; simp)
            rw [hdc, hc] at hd
            cases hd

theorem split_field (r : List UInt8) : ∃ F G, r = F ++ G ∧ isFld F = true ∧ (G = [] ∨ ∃ c t, G = c :: t ∧ fieldB c = false) := by
  refine ⟨r.takeWhile fieldB, r.dropWhile fieldB, List.takeWhile_append_dropWhile.symm, ?_, ?_⟩
  · unfold isFld
    exact List.all_takeWhile
  · cases e : r.dropWhile fieldB with
    | nil => exact .inl rfl
    | cons c t =>
      have hne : r.dropWhile fieldB ≠ [] := by rw [e]; simp
      have := List.head_dropWhile_not fieldB hne
      refine .inr ⟨c, t, rfl, ?_⟩
      simpa [e] using this
/-- What stands behind the head, field byte by field byte. -/
theorem take_field {F G h : List UInt8} (hF : isFld F = true) (hG : G = [] ∨ ∃ c t, G = c :: t ∧ fieldB c = false) (hp : Lib.hasPrefix F h = true) :
    ∃ V, F = h ++ V ∧ ((F ++ G).drop h.length).takeWhile fieldB = V ∧ ((F ++ G).drop h.length).drop V.length = G := by
  obtain ⟨V, rfl⟩ := pre_of hp
  have hV : V.all fieldB = true := by
    unfold isFld at hF
    rw [List.all_append] at hF
    simp only [Bool.and_eq_true] at hF
    exact hF.2
  refine ⟨V, rfl, ?_, ?_⟩
  · rw [List.append_assoc, List.drop_left, List.takeWhile_append_of_pos (List.all_eq_true.1 hV)]
    rcases hG with rfl | ⟨c, t, rfl, hc⟩
    · simp
    · simp [List.takeWhile_cons, hc]
  · rw [List.append_assoc, List.drop_left, List.drop_left]
theorem fit_eq {r h : List UInt8} (hh : isFld h = true) : fitP r h = (Lib.hasPrefix (lnP r) h && isFld (lnP r)) := by
  unfold fitP
  cases e : Lib.hasPrefix (lnP r) h with
  | false => rfl
  | true =>
    obtain ⟨x, hx⟩ := pre_of e
    unfold Lib.trimPrefix
    rw [if_pos e, hx]
    unfold isFld at *
    rw [List.drop_left, List.all_append, hh, Bool.true_and, Bool.true_and]
/-- How lines say the same. -/
def likeL (d : List UInt8 × Nat × Int) (p : List UInt8 × Int × Nat) (n : Nat) : Prop :=
  d.1 = p.1 ∧ d.2.2 = p.2.1 ∧ ((d.2.2 = 0 ∧ d.2.1 = p.2.2) ∨ (d.2.2 = 94 ∧ p.2.2 = n) ∨ (d.2.2 = 93 ∧ p.2.2 = 0))
theorem shrt_field {r h : List UInt8} (hh : isFld h = true) (c : UInt8) (hc : c ∈ r) (hn : fieldB c = false) : shrt r h = false := by
  unfold shrt
  rw [pre_not_field hh c hc hn, Bool.and_false]
theorem line_like (r h : List UInt8) (hh : isFld h = true) : likeL (dlnR r h) (lineP r h) r.length := by
  obtain ⟨F, G, rfl, hF, hG⟩ := split_field r
  have hpre := pre_field (F := F) hh hG
  have h13 := no13 hF
  rcases hG with rfl | ⟨c, t, rfl, hc⟩
  · -- all are field bytes
    have hi : Lib.index (F ++ []) [13, 10] = -1 := by rw [index_front F [] h13]; rfl
    rw [List.append_nil] at *
    have hln : lnP F = F := by
      unfold lnP Lib.cut
      rw [hi]
      simp only [show ¬ (0 : Int) ≤ -1 by decide, if_false]
      unfold Lib.trimSuffix
      cases e : Lib.hasSuffix F [13] with
      | false => simp
      | true =>
        obtain ⟨x, hx⟩ := List.isSuffixOf_iff_suffix.1 e
        exact absurd rfl (h13 13 (by rw [← hx]; simp))
    have hend : (Lib.cut F [13, 10]).2.2 = false := by unfold Lib.cut; rw [hi]; simp
    have hfit : fitP F h = Lib.hasPrefix F h := by rw [fit_eq hh, hln, hF, Bool.and_true]
    unfold lineP
    rw [hend, Bool.and_false, if_neg (by decide), hfit]
    unfold dlnR
    cases e : Lib.hasPrefix F h with
    | true =>
      obtain ⟨V, hV, k1, k2⟩ := take_field (G := []) hF (.inl rfl) e
      rw [List.append_nil] at k1 k2
      have hs : shrt F h = false := by unfold shrt; rw [hV, decide_eq_false (by simp), Bool.false_and]
      rw [hs, k1, k2]
      simp [likeL, shrt, Lib.hasPrefix]
    | false =>
      cases e2 : Lib.hasPrefix h F with
      | true =>
        have hs : shrt F h = true := by
          unfold shrt
          rw [e2, Bool.and_true]
          obtain ⟨x, hx⟩ := pre_of e2
          cases x with
          | nil => rw [List.append_nil] at hx; subst hx; have := isPre_append h []; rw [List.append_nil, e] at this; cases this
          | cons y x => rw [hx]; simp
        rw [hs]
        simp [likeL]
      | false =>
        have hs : shrt F h = false := by unfold shrt; rw [e2, Bool.and_false]
        rw [hs]
        simp [likeL]
  · have hmem : c ∈ F ++ c :: t := by simp
    have hs0 : shrt (F ++ c :: t) h = false := shrt_field hh c hmem hc
    have hp0 : Lib.hasPrefix h (F ++ c :: t) = false := pre_not_field hh c hmem hc
    have hG : c :: t = [] ∨ ∃ c' t', c :: t = c' :: t' ∧ fieldB c' = false := .inr ⟨c, t, rfl, hc⟩
    have hif := index_front F (c :: t) h13
    by_cases hc1 : ∃ t', c = 13 ∧ t = 10 :: t'
    · obtain ⟨t', rfl, rfl⟩ := hc1
      have hi : Lib.index (F ++ 13 :: 10 :: t') [13, 10] = (F.length : Int) := by
        rw [hif]
        have : Lib.index (13 :: 10 :: t') [13, 10] = 0 := by rw [Lib.index]; simp [List.isPrefixOf]
        rw [this]; simp
      have hcut : Lib.cut (F ++ 13 :: 10 :: t') [13, 10] = (F, (F ++ 13 :: 10 :: t').drop (F.length + 2), true) := by
        unfold Lib.cut
        rw [hi, if_pos (by omega), Int.toNat_natCast, List.take_left]
        rfl
      have hln : lnP (F ++ 13 :: 10 :: t') = F := by unfold lnP; rw [hcut]; rfl
      have hfit : fitP (F ++ 13 :: 10 :: t') h = Lib.hasPrefix F h := by rw [fit_eq hh, hln, hF, Bool.and_true]
      unfold lineP dlnR
      rw [hfit, hcut, hln, hs0, hp0, hpre]
      cases e : Lib.hasPrefix F h with
      | false => simp [likeL]
      | true =>
        obtain ⟨V, hV, k1, k2⟩ := take_field hF hG e
        have hx : Lib.trimPrefix F h = V := by unfold Lib.trimPrefix; rw [if_pos e, hV, List.drop_left]
        have h2 : shrt (13 :: 10 :: t') [13, 10] = false := by unfold shrt; rw [decide_eq_false (by simp), Bool.false_and]
        have h3 : Lib.hasPrefix (13 :: 10 :: t') [13, 10] = true := by simp [Lib.hasPrefix, List.isPrefixOf]
        rw [k1, k2, hx, h2, h3]
        simp [likeL]
        rw [hV, List.length_append]
    · by_cases hc2 : c = 13 ∧ t = []
      · obtain ⟨rfl, rfl⟩ := hc2
        have hi : Lib.index (F ++ [13]) [13, 10] = -1 := by rw [hif]; rfl
        have hcut : Lib.cut (F ++ [13]) [13, 10] = (F ++ [13], [], false) := by unfold Lib.cut; rw [hi]; rfl
        have hsu : Lib.hasSuffix (F ++ [13]) [13] = true := List.isSuffixOf_iff_suffix.2 ⟨F, rfl⟩
        have hln : lnP (F ++ [13]) = F := by
          unfold lnP
          rw [hcut]
          simp only [Bool.false_eq_true, if_false]
          unfold Lib.trimSuffix
          rw [if_pos hsu, List.length_append]
          simp
        have hfit : fitP (F ++ [13]) h = Lib.hasPrefix F h := by rw [fit_eq hh, hln, hF, Bool.and_true]
        unfold lineP dlnR
        rw [hfit, hcut, hln, hs0, hp0, hpre]
        cases e : Lib.hasPrefix F h with
        | false => simp [likeL]
        | true =>
          obtain ⟨V, hV, k1, k2⟩ := take_field hF hG e
          have h2 : shrt [13] [13, 10] = true := by decide
          rw [k1, k2, h2]
          simp [likeL]
      · -- neither a line end nor its beginning
        have hnp : ([13, 10] : List UInt8).isPrefixOf (c :: t) = false := by
          cases e : ([13, 10] : List UInt8).isPrefixOf (c :: t) with
          | false => rfl
          | true =>
            obtain ⟨y, hy⟩ := List.isPrefixOf_iff_prefix.1 e
            simp at hy
            exact absurd ⟨y, hy.1.symm, hy.2.symm⟩ hc1
        have hm : ∃ m, F.length < m ∧ lnP (F ++ c :: t) = (F ++ c :: t).take m := by
          unfold lnP Lib.cut
          by_cases hj : 0 ≤ Lib.index (F ++ c :: t) [13, 10]
          · refine ⟨(Lib.index (F ++ c :: t) [13, 10]).toNat, ?_, by rw [if_pos hj]; rfl⟩
            have : 1 ≤ Lib.index (c :: t) [13, 10] ∨ Lib.index (c :: t) [13, 10] = -1 := by
              have hg := Lib.index_ge t [13, 10]
              rw [Lib.index, hnp]
              simp only [Bool.false_eq_true, if_false]
              by_cases h1 : Lib.index t [13, 10] = -1
              · simp [h1]
              · simp [h1]; omega
            rw [hif] at hj ⊢
            rcases this with h1 | h1
            · rw [if_neg (by omega)]; omega
            · rw [if_pos h1] at hj; omega
          · rw [if_neg hj]
            simp only [Bool.false_eq_true, if_false]
            unfold Lib.trimSuffix
            cases e : Lib.hasSuffix (F ++ c :: t) [13] with
            | false => exact ⟨(F ++ c :: t).length, by simp, by rw [List.take_length]; simp⟩
            | true =>
              refine ⟨(F ++ c :: t).length - 1, ?_, by simp⟩
              cases t with
              | cons d t => simp
              | nil =>
                obtain ⟨x, hx⟩ := List.isSuffixOf_iff_suffix.1 e
                have := (List.append_inj' hx rfl).2
                simp at this
                exact absurd ⟨this.symm, rfl⟩ hc2
        obtain ⟨m, hm1, hm2⟩ := hm
        have hnf : isFld (lnP (F ++ c :: t)) = false := by
          rw [hm2]
          unfold isFld
          rw [List.all_eq_false]
          refine ⟨c, ?_, by rw [hc]; decide⟩
          rw [List.take_append, List.mem_append]
          right
          obtain ⟨k, hk⟩ : ∃ k, m - F.length = k + 1 := ⟨m - F.length - 1, by omega⟩
          rw [hk]
          simp
        have hfit : fitP (F ++ c :: t) h = false := by rw [fit_eq hh, hnf, Bool.and_false]
        unfold lineP dlnR
        rw [hfit, hs0, hp0, hpre]
        cases e : Lib.hasPrefix F h with
        | false => simp [likeL]
        | true =>
          obtain ⟨V, hV, k1, k2⟩ := take_field hF hG e
          have h2 : shrt (c :: t) [13, 10] = false := by
            unfold shrt
            cases t with
            | cons d t => rw [decide_eq_false (by simp), Bool.false_and]
            | nil =>
              have : Lib.hasPrefix [13, 10] [c] = false := by
                cases e3 : Lib.hasPrefix [13, 10] [c] with
                | false => rfl
                | true =>
                  obtain ⟨y, hy⟩ := pre_of e3
                  simp at hy
                  exact absurd ⟨hy.1.symm, rfl⟩ hc2
              rw [this, Bool.and_false]
          have h3 : Lib.hasPrefix (c :: t) [13, 10] = false := hnp
          rw [k1, k2, h2, h3]
          simp [likeL]

theorem ctH_fld : isFld ctH = true := by decide
theorem crH_fld : isFld crH = true := by decide
theorem tolR_none (l : List UInt8) (h : (tolR l).2.2 ≠ 0) : (tolR l).1 = (0, 0) := by
  revert h
  unfold tolR tolS
  repeat' split
  all_goals simp
/-- One line end taken. -/
theorem take_end (r : List UInt8) : takeP r 93 [[13, 10]] = if shrt r [13, 10] = true then ([], 94, r.length) else if Lib.hasPrefix r [13, 10] = false then ([], 93, 0) else ([13, 10], 0, 2) := by
  unfold takeP takeP
  cases e : Lib.hasPrefix r [13, 10] with
  | true =>
    have : shrt r [13, 10] = false := by
      obtain ⟨x, rfl⟩ := pre_of e
      unfold shrt
      rw [decide_eq_false (by simp), Bool.false_and]
    rw [this]; simp
  | false =>
    cases e2 : Lib.hasPrefix [13, 10] r with
    | true =>
      have : shrt r [13, 10] = true := by
        unfold shrt
        rw [e2, Bool.and_true]
        obtain ⟨x, hx⟩ := pre_of e2
        cases x with
        | nil => rw [List.append_nil] at hx; subst hx; cases e
        | cons y x => rw [hx]; simp
      rw [this]; simp
    | false =>
      have : shrt r [13, 10] = false := by unfold shrt; rw [e2, Bool.and_false]
      rw [this]; simp
theorem piece_like (r : List UInt8) : dpcR r = pieceP r := by
  have a1 := line_like r ctH ctH_fld
  have g1 := dlnR_far r ctH
  unfold dpcR pieceP
  generalize dlnR r ctH = d1 at *
  generalize lineP r ctH = p1 at *
  obtain ⟨v1, k1, e1⟩ := d1
  obtain ⟨v1', e1', k1'⟩ := p1
  obtain ⟨h1, h2, h3⟩ := a1
  dsimp only at h1 h2 h3 g1 ⊢
  subst h1 h2
  rcases h3 with ⟨rfl, rfl⟩ | ⟨rfl, rfl⟩ | ⟨rfl, rfl⟩
  · have a2 := line_like (r.drop k1) crH crH_fld
    have g2 := dlnR_far (r.drop k1) crH
    rw [List.length_drop] at g2
    rw [List.length_drop] at a2
    generalize dlnR (r.drop k1) crH = d2 at *
    generalize lineP (r.drop k1) crH = p2 at *
    obtain ⟨v2, k2, e2⟩ := d2
    obtain ⟨v2', e2', k2'⟩ := p2
    obtain ⟨h1, h2, h3⟩ := a2
    dsimp only at h1 h2 h3 g2 ⊢
    subst h1 h2
    rcases h3 with ⟨rfl, rfl⟩ | ⟨rfl, rfl⟩ | ⟨rfl, rfl⟩
    · have tn := tolR_none v2
      rw [take_end]
      generalize tolR v2 = X at *
      by_cases hx : X.1 = (0, 0)
      · simp [hx]
      · have : X.2.2 = 0 := Classical.byContradiction fun e => hx (tn e)
        have hne : ¬ (X.2.2 ≠ 0 ∨ X.1 = (0, 0)) := by simp [this, hx]
        simp only [if_neg hne, if_neg hx]
        cases c1 : shrt (r.drop (k1 + k2)) [13, 10] with
        | true => simp; omega
        | false =>
          cases c2 : Lib.hasPrefix (r.drop (k1 + k2)) [13, 10] with
          | false => simp
          | true => simp
    · simp; omega
    · simp
  · simp
  · simp
theorem go_like (op cl l : List UInt8) (hne : ∀ x, Lib.hasPrefix x op = true → Lib.hasPrefix x cl = true → False) : ∀ (f a : Nat) (acc : List Pc), a ≤ l.length →
    dgo op cl l f a acc = if (goA op cl l f a acc).2.1 ≠ 0 then ([], ((goA op cl l f a acc).2.2 : Int), (goA op cl l f a acc).2.1) else ((goA op cl l f a acc).1, 0, 0)
  | 0, a, acc, ha => by simp [dgo, goA]
  | f + 1, a, acc, ha => by
    have sh : ∀ t, Lib.hasPrefix (l.drop a) t = false → shrt (l.drop a) t = Lib.hasPrefix t (l.drop a) := fun t ht => by
      unfold shrt
      cases e : Lib.hasPrefix t (l.drop a) with
      | false => rw [Bool.and_false]
      | true =>
        obtain ⟨x, hx⟩ := pre_of e
        cases x with
        | nil =>
          rw [List.append_nil] at hx
          have := isPre_append t []
          rw [List.append_nil] at this
          rw [← hx, this] at ht
          cases ht
        | cons y x => rw [Bool.and_true, hx]; simp
    have hln : a + (l.drop a).length = l.length := by rw [List.length_drop]; omega
    have hop : Lib.hasPrefix (l.drop a) op = true → shrt (l.drop a) op = false ∧ shrt (l.drop a) cl = false ∧ Lib.hasPrefix (l.drop a) cl = false ∧ a + op.length ≤ l.length := fun e => by
      obtain ⟨x, hx⟩ := pre_of e
      refine ⟨?_, ?_, ?_, ?_⟩
      · unfold shrt; rw [hx, decide_eq_false (by simp), Bool.false_and]
      · unfold shrt
        cases e2 : Lib.hasPrefix cl (l.drop a) with
        | false => rw [Bool.and_false]
        | true =>
          obtain ⟨y, hy⟩ := pre_of e2
          exfalso
          refine hne cl ?_ ?_
          · rw [hy, hx, List.append_assoc]; exact isPre_append _ _
          · have := isPre_append cl []; rw [List.append_nil] at this; exact this
      · cases e2 : Lib.hasPrefix (l.drop a) cl with
        | false => rfl
        | true => exact (hne _ e e2).elim
      · have := congrArg List.length hx
        rw [List.length_append] at this
        omega
    have hpc := piece_like (l.drop (a + op.length))
    have hfar := pieceP_far (l.drop (a + op.length))
    rw [List.length_drop] at hfar
    rw [dgo, goA, hpc]
    cases e1 : Lib.hasPrefix (l.drop a) op with
    | true =>
      obtain ⟨s1, s2, s3, s4⟩ := hop e1
      have ht : takeP (l.drop a) 92 (mksP op cl acc) = (op, 0, op.length) := by
        unfold mksP
        split <;> (unfold takeP; rw [if_pos e1])
      rw [ht, s1, s2, s3]
      have ih := go_like op cl l hne f (a + op.length + (pieceP (l.drop (a + op.length))).2.2) (acc ++ [(pieceP (l.drop (a + op.length))).1]) (by omega)
      by_cases hz : (pieceP (l.drop (a + op.length))).2.1 = 0
      · simp [hz, ih]
      · simp [hz]
    | false =>
      have q1 := sh op e1
      by_cases hacc : acc = []
      · subst hacc
        have ht : takeP (l.drop a) 92 (mksP op cl []) = if Lib.hasPrefix op (l.drop a) then ([], 94, (l.drop a).length) else ([], 92, 0) := by
          unfold mksP takeP takeP
          rw [if_pos rfl]
          simp only [e1]
          cases Lib.hasPrefix op (l.drop a) <;> simp
        rw [ht, q1]
        cases Lib.hasPrefix op (l.drop a) with
        | true => simp; omega
        | false => simp
      · have hl0 : 0 < acc.length := List.length_pos_iff.2 hacc
        have hm : mksP op cl acc = [op, cl] := by unfold mksP; rw [if_neg hacc]
        rw [hm]
        cases e2 : Lib.hasPrefix (l.drop a) cl with
        | true =>
          have ht : takeP (l.drop a) 92 [op, cl] = (cl, 0, cl.length) := by
            simp [takeP, e1, e2]
          have hoc : cl ≠ op := fun e => by rw [e, e1] at e2; cases e2
          rw [ht]
          by_cases hz : a + cl.length < l.length
          · simp [hl0, hoc, hz]
          · simp [hl0, hoc, hz]
        | false =>
          have q2 := sh cl e2
          have ht : takeP (l.drop a) 92 [op, cl] = if Lib.hasPrefix op (l.drop a) = true ∨ Lib.hasPrefix cl (l.drop a) = true then ([], 94, (l.drop a).length) else ([], 92, 0) := by
            simp only [takeP, e1, e2]
            cases Lib.hasPrefix op (l.drop a) <;> cases Lib.hasPrefix cl (l.drop a) <;> simp
          rw [ht, q1, q2]
          cases Lib.hasPrefix op (l.drop a) <;> cases Lib.hasPrefix cl (l.drop a) <;> simp [hl0] <;> omega
theorem dps_like (bd l : List UInt8) : dpsR bd l = pcsR bd l := by
  unfold dpsR pcsR
  cases bndR bd with
  | false => rfl
  | true =>
    rw [if_pos rfl, if_pos rfl]
    refine go_like _ _ l ?_ _ 0 [] (by omega)
    intro x h1 h2
    obtain ⟨y, hy⟩ := pre_of h1
    obtain ⟨z, hz⟩ := pre_of h2
    rw [hy] at hz
    unfold opB clB at hz
    simp only [List.append_assoc] at hz
    have := List.append_cancel_left (List.append_cancel_left hz)
    simp at this
theorem dgo_len (op cl l : List UInt8) (h0 : 0 < op.length) : ∀ (f a : Nat) (acc : List Pc), acc.length ≤ a → a ≤ l.length → (dgo op cl l f a acc).1.length ≤ l.length
  | 0, a, acc, _, _ => by simp [dgo]
  | f + 1, a, acc, h1, h2 => by
    have hfar := pieceP_far (l.drop (a + op.length))
    rw [List.length_drop] at hfar
    rw [dgo, piece_like]
    split
    · split
      · simp
      · dsimp only; omega
    · split
      · simp
      · split
        · simp
        · rename_i hp
          have hp' : Lib.hasPrefix (l.drop a) op = true := by simpa using hp
          obtain ⟨x, hx⟩ := pre_of hp'
          have hl := congrArg List.length hx
          rw [List.length_append, List.length_drop] at hl
          split
          · simp
          · exact dgo_len op cl l h0 f _ _ (by rw [List.length_append]; simp; omega) (by omega)
theorem dgo_len9 (bd l : List UInt8) : (dpsR bd l).1.length ≤ l.length := by
  unfold dpsR
  split
  · exact dgo_len _ _ l (by unfold opB; simp) _ 0 [] (by simp) (by omega)
  · simp

end Sn
end Go.Proofs.YthdfgepnadgkjaaGreatDoor
