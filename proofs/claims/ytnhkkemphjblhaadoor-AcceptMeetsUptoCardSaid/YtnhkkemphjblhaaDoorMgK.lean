/- Several texts as one. -/
import Derived.Test.YtnhkkemphjblhaaDoorMgJ
import Derived.Test.YtnhkkemphjblhaaDoorMgA
import Derived.Test.YtnhkkemphjblhaaDoorMgE
import Derived.Test.YtnhkkemphjblhaaDoorMgC
/-
  Media types and words with parameters, plainly: the two ways to read them.
-/
set_option linter.unusedVariables false
set_option linter.unusedSimpArgs false
namespace Go.Proofs.YtnhkkemphjblhaaDoor
namespace Ac
open Oc Tg

/-- A byte that ends what stands ahead of parameters. -/
def endB (c : UInt8) : Bool := c == 59 || c == 32 || c == 9
def hdLen (l : List UInt8) : Nat := (l.takeWhile (fun c => !endB c)).length
def lowP (p : Prm) : Prm := (lower p.1, p.2.1, p.2.2)
/-- The parameters go on to the end. -/
def full (l : List UInt8) : Prop := (paramsR l).2.2 = 0 ∧ (paramsR l).2.1 = l.length
instance (l : List UInt8) : Decidable (full l) := by unfold full; infer_instance
def psOf (l : List UInt8) : List Prm := (paramsR l).1.map lowP
/-- What stands ahead, and the parameters. -/
def cutP (l : List UInt8) : Option (List UInt8 × List Prm) := if full (l.drop (hdLen l)) then some (l.take (hdLen l), psOf (l.drop (hdLen l))) else none
abbrev Med := List UInt8 × List UInt8 × List Prm
/-- A media type or a range. -/
def med (l : List UInt8) : Option Med := match cutP l with
  | none => none
  | some x => if isTok (cutA 47 x.1) && isTok (cutB 47 x.1) then some (lower (cutA 47 x.1), lower (cutB 47 x.1), x.2) else none
/-- The document's. -/
def jAt (l : List UInt8) : Nat := tokLen l + 1 + tokLen (l.drop (tokLen l + 1))
def condR (l : List UInt8) : Prop := 0 < tokLen l ∧ tokLen l < l.length ∧ l.getD (tokLen l) 0 = 47 ∧ 0 < tokLen (l.drop (tokLen l + 1))
instance (l : List UInt8) : Decidable (condR l) := by unfold condR; infer_instance
def partsR (l : List UInt8) : Option Med :=
  if condR l ∧ full (l.drop (jAt l)) then some (lower (l.take (tokLen l)), lower ((l.drop (tokLen l + 1)).take (tokLen (l.drop (tokLen l + 1)))), psOf (l.drop (jAt l))) else none
/-- A word with parameters: the program's, and the document's. -/
def wrd (l : List UInt8) : Option (List UInt8 × List Prm) := match cutP l with
  | none => none
  | some x => if isTok x.1 then some x else none
def wrdR (l : List UInt8) : Option (List UInt8 × List Prm) := if 0 < tokLen l ∧ full (l.drop (tokLen l)) then some (l.take (tokLen l), psOf (l.drop (tokLen l))) else none

theorem tw_len {p : UInt8 → Bool} (K R : List UInt8) (hK : ∀ c ∈ K, p c = true) (hR : ∀ c, R.head? = some c → p c = false) : ((K ++ R).takeWhile p).length = K.length := by
  induction K with
  | nil =>
    cases R with
    | nil => rfl
    | cons c R => simp [List.takeWhile, hR c rfl]
  | cons a K ih =>
    have ha := hK a (by simp)
    simp only [List.cons_append, List.takeWhile_cons, ha, if_true, List.length_cons]
    rw [ih (fun c hc => hK c (by simp [hc]))]
theorem tw_take {p : UInt8 → Bool} (l : List UInt8) : ∀ c ∈ l.take (l.takeWhile p).length, p c = true := by
  have e : l.take (l.takeWhile p).length = l.takeWhile p := by
    have h := List.take_left (l₁ := l.takeWhile p) (l₂ := l.dropWhile p)
    rwa [List.takeWhile_append_dropWhile] at h
  rw [e]
  intro c hc
  have := List.all_takeWhile (p := p) (l := l)
  exact List.all_eq_true.1 this c hc
theorem tw_drop {p : UInt8 → Bool} (l : List UInt8) : ∀ c, (l.drop (l.takeWhile p).length).head? = some c → p c = false := by
  intro c hc
  have e : l.drop (l.takeWhile p).length = l.dropWhile p := by
    have h := List.drop_left (l₁ := l.takeWhile p) (l₂ := l.dropWhile p)
    rwa [List.takeWhile_append_dropWhile] at h
  rw [e] at hc
  have := List.head?_dropWhile_not p l
  rw [hc] at this
  simpa using this
theorem tok_end {c : UInt8} (h : tokB c = true) : endB c = false := by
  unfold endB
  rw [Bool.or_eq_false_iff, Bool.or_eq_false_iff]
  refine ⟨⟨?_, ?_⟩, ?_⟩
  all_goals
    rw [beq_eq_false_iff_ne]
    rintro rfl
    revert h
    decide
theorem tok_slash {c : UInt8} (h : tokB c = true) : c ≠ 47 := by rintro rfl; revert h; decide
theorem isTok_iff (l : List UInt8) : isTok l = true ↔ l ≠ [] ∧ ∀ c ∈ l, tokB c = true := by
  unfold isTok
  rw [Bool.and_eq_true, List.all_eq_true]
  cases l <;> simp
/-- Where neither a blank nor a semicolon stands ahead there are no parameters. -/
theorem params_none (c : UInt8) (r : List UInt8) (h : endB c = false) : paramsR (c :: r) = ([], 0, 0) := by
  have hb : blankB c = false := by
    unfold endB at h
    rw [Bool.or_eq_false_iff, Bool.or_eq_false_iff] at h
    unfold blankB
    have h1 : c.toNat ≠ 32 := fun e => beq_eq_false_iff_ne.1 h.1.2 (UInt8.toNat_inj.1 e)
    have h2 : c.toNat ≠ 9 := fun e => beq_eq_false_iff_ne.1 h.2 (UInt8.toNat_inj.1 e)
    simp [blankI]
    omega
  have h59 : c ≠ 59 := by
    rintro rfl
    revert h; decide
  have e0 : bl (c :: r) = 0 := by simp [bl, List.takeWhile, hb]
  have hs : semi (c :: r) (bl (c :: r)) = false := by rw [e0]; unfold semi; simp [h59]
  exact paramsR_some (x := ([], 0)) (prm_end (pstep_stop hs))
theorem not_full (c : UInt8) (r : List UInt8) (h : endB c = false) : ¬ full (c :: r) := by
  unfold full
  rw [params_none c r h]
  simp
  omega
theorem full_head {l : List UInt8} (h : full l) : ∀ c, l.head? = some c → endB c = true := by
  intro c hc
  cases l with
  | nil => simp at hc
  | cons a r =>
    obtain rfl : a = c := by simpa using hc
    cases e : endB a with
    | true => rfl
    | false => exact absurd h (not_full a r e)

/-- The parts of a text that begins with a token. -/
theorem tok_parts (l : List UInt8) : l = l.take (tokLen l) ++ l.drop (tokLen l) ∧ (∀ c ∈ l.take (tokLen l), tokB c = true) ∧ (∀ c, (l.drop (tokLen l)).head? = some c → tokB c = false) :=
  ⟨(List.take_append_drop _ _).symm, tw_take l, tw_drop l⟩
theorem tokLen_app (K R : List UInt8) (hK : ∀ c ∈ K, tokB c = true) (hR : ∀ c, R.head? = some c → tokB c = false) : tokLen (K ++ R) = K.length := tw_len K R hK hR
theorem hdLen_app (H R : List UInt8) (hH : ∀ c ∈ H, endB c = false) (hR : ∀ c, R.head? = some c → endB c = true) : hdLen (H ++ R) = H.length :=
  tw_len H R (fun c hc => by rw [hH c hc]; rfl) (fun c hc => by rw [hR c hc]; rfl)
theorem end_tok {c : UInt8} (h : endB c = true) : tokB c = false := by
  cases e : tokB c with
  | false => rfl
  | true => rw [tok_end e] at h; cases h

theorem wrd_eq (l : List UInt8) : wrd l = wrdR l := by
  unfold wrdR
  split
  · rename_i h
    obtain ⟨e, hK, hR⟩ := tok_parts l
    have hh : hdLen l = tokLen l := by
      have := hdLen_app (l.take (tokLen l)) (l.drop (tokLen l)) (fun c hc => tok_end (hK c hc)) (full_head h.2)
      rw [← e] at this
      rw [this, List.length_take]
      have := tokLen_le l
      omega
    unfold wrd cutP
    rw [hh, if_pos h.2]
    have : isTok (l.take (tokLen l)) = true := (isTok_iff _).2 ⟨fun e => by
      have h2 := congrArg List.length e
      rw [List.length_take, List.length_nil] at h2
      have h3 := tokLen_le l
      have h4 := h.1
      omega, hK⟩
    simp only [this, if_true]
  · rename_i h
    unfold wrd cutP
    split
    · rfl
    · rename_i x hx
      split at hx
      · rename_i hf
        cases hx
        split
        · rename_i ht
          exfalso
          apply h
          obtain ⟨hne, hall⟩ := (isTok_iff _).1 ht
          have ht2 : tokLen l = hdLen l := by
            have := tokLen_app (l.take (hdLen l)) (l.drop (hdLen l)) hall (fun c hc => end_tok (full_head hf c hc))
            rw [List.take_append_drop] at this
            rw [this, List.length_take]
            have : hdLen l ≤ l.length := (List.takeWhile_sublist _).length_le
            omega
          rw [ht2]
          refine ⟨?_, hf⟩
          rcases Nat.eq_zero_or_pos (hdLen l) with h0 | h0
          · rw [h0] at hne; simp at hne
          · exact h0
        · rfl
      · cases hx

theorem cut_slash (K S : List UInt8) (hK : ∀ c ∈ K, tokB c = true) : cutA 47 (K ++ 47 :: S) = K ∧ cutB 47 (K ++ 47 :: S) = S := by
  have e : ∀ c ∈ K, (c != 47) = true := fun c hc => by simp [tok_slash (hK c hc)]
  constructor
  · unfold cutA
    rw [List.takeWhile_append_of_pos e]
    simp
  · unfold cutB
    rw [List.dropWhile_append_of_pos e]
    simp
theorem shape (K S R : List UInt8) (hK : ∀ c ∈ K, tokB c = true) (hS : ∀ c ∈ S, tokB c = true) (hR : ∀ c, R.head? = some c → tokB c = false) :
    tokLen (K ++ 47 :: (S ++ R)) = K.length ∧ (K ++ 47 :: (S ++ R)).drop (K.length + 1) = S ++ R ∧ tokLen (S ++ R) = S.length ∧ (K ++ 47 :: (S ++ R)).take K.length = K := by
  refine ⟨tokLen_app _ _ hK (fun c hc => by simp at hc; subst hc; decide), ?_, tokLen_app _ _ hS hR, List.take_left⟩
  rw [show K ++ 47 :: (S ++ R) = (K ++ [47]) ++ (S ++ R) by simp, show K.length + 1 = (K ++ [47]).length by simp, List.drop_left]
theorem parts_shape (K S R : List UInt8) (hK : ∀ c ∈ K, tokB c = true) (hS : ∀ c ∈ S, tokB c = true) (hR : ∀ c, R.head? = some c → tokB c = false) (kn : K ≠ []) (sn : S ≠ []) :
    partsR (K ++ 47 :: (S ++ R)) = if full R then some (lower K, lower S, psOf R) else none := by
  obtain ⟨a, b, c, d⟩ := shape K S R hK hS hR
  have p1 : 0 < K.length := List.length_pos_iff.2 kn
  have p2 : 0 < S.length := List.length_pos_iff.2 sn
  have hj : (K ++ 47 :: (S ++ R)).drop (jAt (K ++ 47 :: (S ++ R))) = R := by
    unfold jAt
    rw [a, b, c, ← List.drop_drop, b, List.drop_left]
  have hc : condR (K ++ 47 :: (S ++ R)) := by
    unfold condR
    rw [a, b, c]
    exact ⟨p1, by simp, by simp [List.getD_eq_getElem?_getD], p2⟩
  unfold partsR
  rw [hj, a, b, c, d, List.take_left]
  by_cases hf : full R
  · rw [if_pos ⟨hc, hf⟩, if_pos hf]
  · rw [if_neg (fun h => hf h.2), if_neg hf]
theorem med_shape (K S R : List UInt8) (hK : ∀ c ∈ K, tokB c = true) (hS : ∀ c ∈ S, tokB c = true) (hR : ∀ c, R.head? = some c → endB c = true) (kn : K ≠ []) (sn : S ≠ []) :
    med (K ++ 47 :: (S ++ R)) = if full R then some (lower K, lower S, psOf R) else none := by
  have hh : hdLen (K ++ 47 :: (S ++ R)) = (K ++ 47 :: S).length := by
    rw [show K ++ 47 :: (S ++ R) = (K ++ 47 :: S) ++ R by simp]
    exact hdLen_app _ _ (fun c hc => by
      rcases List.mem_append.1 hc with h | h
      · exact tok_end (hK c h)
      · rcases List.mem_cons.1 h with rfl | h
        · decide
        · exact tok_end (hS c h)) hR
  have hd : (K ++ 47 :: (S ++ R)).drop (K ++ 47 :: S).length = R := by
    rw [show K ++ 47 :: (S ++ R) = (K ++ 47 :: S) ++ R by simp, List.drop_left]
  have ht : (K ++ 47 :: (S ++ R)).take (K ++ 47 :: S).length = K ++ 47 :: S := by
    rw [show K ++ 47 :: (S ++ R) = (K ++ 47 :: S) ++ R by simp, List.take_left]
  obtain ⟨c1, c2⟩ := cut_slash K S hK
  unfold med cutP
  rw [hh, hd, ht]
  by_cases hf : full R
  · rw [if_pos hf, if_pos hf]
    simp only [c1, c2, (isTok_iff _).2 ⟨kn, hK⟩, (isTok_iff _).2 ⟨sn, hS⟩, Bool.and_self, if_true]
  · rw [if_neg hf, if_neg hf]
theorem med_some (l : List UInt8) (h : med l ≠ none) : ∃ K S R, l = K ++ 47 :: (S ++ R) ∧ (∀ c ∈ K, tokB c = true) ∧ (∀ c ∈ S, tokB c = true) ∧ K ≠ [] ∧ S ≠ [] ∧ (∀ c, R.head? = some c → endB c = true) := by
  unfold med cutP at h
  by_cases hf : full (l.drop (hdLen l))
  · rw [if_pos hf] at h
    dsimp only at h
    split at h
    · rename_i htk
      rw [Bool.and_eq_true] at htk
      obtain ⟨t1, t2⟩ := htk
      obtain ⟨n1, a1⟩ := (isTok_iff _).1 t1
      obtain ⟨n2, a2⟩ := (isTok_iff _).1 t2
      have hhas : has 47 (l.take (hdLen l)) = true := by
        cases hx : has 47 (l.take (hdLen l)) with
        | true => rfl
        | false => exact absurd (cutB_none 47 _ hx) n2
      have hap := cut_app 47 _ hhas
      refine ⟨_, _, l.drop (hdLen l), ?_, a1, a2, n1, n2, full_head hf⟩
      rw [← List.cons_append, ← List.append_assoc, hap, List.take_append_drop]
    · exact absurd rfl h
  · rw [if_neg hf] at h
    exact absurd rfl h
theorem cond_shape (l : List UInt8) (hc : condR l) : ∃ K S R, l = K ++ 47 :: (S ++ R) ∧ (∀ c ∈ K, tokB c = true) ∧ (∀ c ∈ S, tokB c = true) ∧ K ≠ [] ∧ S ≠ [] ∧ (∀ c, R.head? = some c → tokB c = false) := by
  obtain ⟨h0, h1, h2, h3⟩ := hc
  obtain ⟨e, hK, hR⟩ := tok_parts l
  obtain ⟨e2, hS, hR2⟩ := tok_parts (l.drop (tokLen l + 1))
  have hd : l.drop (tokLen l) = 47 :: l.drop (tokLen l + 1) := by
    rw [List.drop_eq_getElem_cons h1]
    rw [List.getD_eq_getElem?_getD, List.getElem?_eq_getElem h1] at h2
    simp at h2
    rw [h2]
  have hKl : (l.take (tokLen l)).length = tokLen l := by rw [List.length_take]; omega
  have hSl : ((l.drop (tokLen l + 1)).take (tokLen (l.drop (tokLen l + 1)))).length = tokLen (l.drop (tokLen l + 1)) := by
    rw [List.length_take]; have := tokLen_le (l.drop (tokLen l + 1)); omega
  refine ⟨_, _, _, ?_, hK, hS, fun h => ?_, fun h => ?_, hR2⟩
  · rw [← e2, ← hd]; exact e
  · rw [h] at hKl; simp at hKl; omega
  · rw [h] at hSl; simp at hSl; omega
theorem med_eq (l : List UInt8) : med l = partsR l := by
  by_cases hm : med l = none
  · rw [hm]
    unfold partsR
    split
    · rename_i h
      obtain ⟨K, S, R, rfl, hK, hS, kn, sn, hR⟩ := cond_shape l h.1
      exfalso
      have hf : full R := by
        have := h.2
        obtain ⟨a, b, c, d⟩ := shape K S R hK hS hR
        unfold jAt at this
        rw [a, b, c, ← List.drop_drop, b, List.drop_left] at this
        exact this
      rw [med_shape K S R hK hS (full_head hf) kn sn, if_pos hf] at hm
      cases hm
    · rfl
  · obtain ⟨K, S, R, rfl, hK, hS, kn, sn, hR⟩ := med_some l hm
    rw [med_shape K S R hK hS hR kn sn, parts_shape K S R hK hS (fun c hc => end_tok (hR c hc)) kn sn]

end Ac
end Go.Proofs.YtnhkkemphjblhaaDoor

/-
  slices.IndexFunc and ContainsFunc over parameters.
-/
set_option linter.unusedVariables false
set_option linter.unusedSimpArgs false
namespace Go.Proofs.YtnhkkemphjblhaaDoor
open Go.RowKit Go.Shelf
namespace Ac
open Oc Tg

def idxB (f : Prm → Bool) (l : List Prm) : Int := match l.findIdx? f with | some k => (k : Int) | none => -1
theorem idxB_at {f : Prm → Bool} {l : List Prm} {k : Nat} (hk : k < l.length) (h1 : f (nth l k) = true) (h2 : ∀ j, j < k → f (nth l j) = false) : idxB f l = k := by
  unfold idxB
  have : l.findIdx? f = some k := by
    rw [List.findIdx?_eq_some_iff_getElem]
    refine ⟨hk, ?_, fun j hj => ?_⟩
    · have := h1
      unfold nth at this
      rwa [List.getD_eq_getElem?_getD, List.getElem?_eq_getElem hk] at this
    · have := h2 j hj
      unfold nth at this
      rw [List.getD_eq_getElem?_getD, List.getElem?_eq_getElem (by omega)] at this
      simpa using this
  rw [this]
theorem idxB_none {f : Prm → Bool} {l : List Prm} (h2 : ∀ j, j < l.length → f (nth l j) = false) : idxB f l = -1 := by
  unfold idxB
  have : l.findIdx? f = none := by
    rw [List.findIdx?_eq_none_iff]
    intro x hx
    obtain ⟨j, hj, rfl⟩ := List.mem_iff_getElem.1 hx
    have := h2 j hj
    unfold nth at this
    rwa [List.getD_eq_getElem?_getD, List.getElem?_eq_getElem hj] at this
  rw [this]
theorem idxB_any (f : Prm → Bool) (l : List Prm) : decide (0 ≤ idxB f l) = l.any f := by
  unfold idxB
  cases h : l.findIdx? f with
  | none =>
    rw [List.findIdx?_eq_none_iff] at h
    have : l.any f = false := List.any_eq_false.2 (fun x hx => by rw [h x hx]; decide)
    rw [this]
    decide
  | some k =>
    rw [List.findIdx?_eq_some_iff_getElem] at h
    obtain ⟨hk, h1, _⟩ := h
    have : l.any f = true := List.any_eq_true.2 ⟨_, List.getElem_mem hk, h1⟩
    rw [this]
    exact decide_eq_true (by simp)
/-- No text of theirs is longer. -/
def EachP (M : Nat) (l : List Prm) : Prop := ∀ p ∈ l, p.1.length ≤ M ∧ p.2.1.length ≤ M
theorem EachP.at {M : Nat} {l : List Prm} (h : EachP M l) (k : Nat) (hk : k < l.length) : (nth l k).1.length ≤ M ∧ (nth l k).2.1.length ≤ M := by
  refine h _ ?_
  unfold nth
  rw [List.getD_eq_getElem?_getD, List.getElem?_eq_getElem hk]
  exact List.getElem_mem hk
def noVal (p : Prm) : Bool := !p.2.2
def notSmall (p : Prm) : Bool := !decide (lower p.1 = p.1)
def isQ (p : Prm) : Bool := decide (p.1 = [113])
theorem veq (a b : List UInt8) : ((str a).toList == (str b).toList) = decide (a = b) := by
  rw [eq_toList, Bool.eq_iff_iff, decide_eq_true_iff, decide_eq_true_iff]
  exact ⟨str_inj, fun h => by rw [h]⟩

set_option maxRecDepth 100000 in
set_option maxHeartbeats 1000000 in
theorem noVal_any (p : Prm) (hp : p.1.length ≤ maxLen) (w : World) :
    Calls Tryd.prog 45 #[.agg #[.string (str p.1), .string (str p.2.1), .bool p.2.2]] w fun e w' => e = .returned (.bool (noVal p)) ∧ Below w.heap.size w w' := by
  obtain ⟨n, v, b⟩ := p
  dsimp only at hp ⊢
  obtain ⟨w2, hw2⟩ : ∃ w2, w2 = w.alloc (.cells #[.string (str n), .string (str v), .bool b] 64) := ⟨_, rfl⟩
  have R1 : w2.heap[w.heap.size]? = some (.cells #[.string (str n), .string (str v), .bool b] 64 (0, 0)) := by
    rw [hw2]; exact heap_alloc_new w _
  have HB2 : Hid (Below w.heap.size w w2) := by show Below _ _ _; rw [hw2]; exact (Below.refl _ w).alloc (Nat.le_refl _) _
  have c0 := Lib.cell_of_heap R1 0
  have c2 := Lib.cell_of_heap R1 2
  simp at c0 c2
  clear R1
  clear c0
  subst hw2
  go_enter Tryd.func45, Tryd.ntmps45
  go_wp2
  go_ret
  exact ⟨rfl, HB2.out⟩

set_option maxRecDepth 100000 in
set_option maxHeartbeats 2000000 in
theorem IndexFunc_noVal (v : Value) (ps : List Prm) (hM : EachP maxLen ps) (hl : ps.length ≤ 4294967296) (w : World) (hrd : RdP v ps w) :
    Calls Tryd.prog 70 #[v, .func (.func 45) #[] #[]] w fun e w' => e = .returned (.int .i64 (idxB noVal ps)) ∧ Below w.heap.size w w' := by
  have HR : Hid (RdP v ps w) := hrd
  have HM : Hid (EachP maxLen ps) := hM
  obtain ⟨a, c, rfl, _⟩ := hrd
  clear hM
  go_enter Tryd.func70, Tryd.ntmps70
  go_wp2
  go_loopw [8] (fun i wr => ∃ k : Nat, k ≤ ps.length ∧ i = .int .i64 k ∧ Hid (∀ j, j < k → noVal (nth ps j) = false) ∧ Hid (Below w.heap.size w wr)) (fun i _ => ps.length - (intOf i).toNat)
  case atStart => exact ⟨0, Nat.zero_le _, rfl, (fun j hj => by omega : ∀ j, j < 0 → _), Below.refl _ _⟩
  case round =>
    obtain ⟨k, hk, rfl, hall, hbl⟩ := hrel
    by_cases hlt : k < ps.length
    · obtain ⟨a', c', e', hcs⟩ := HR.out.below hbl.out
      injection e' with e1 _ e2
      subst e1 e2
      rcases hcs with h | ⟨g, o, rfl, hlc, hcell⟩
      · rw [h] at hlt; simp at hlt
      obtain ⟨p0, p1, p2⟩ := hcell k hlt
      clear hcell
      have HN : Hid (Calls Tryd.prog 45 #[.agg #[.string (str (nth ps k).1), .string (str (nth ps k).2.1), .bool (nth ps k).2.2]] wr fun e w' => e = .returned (.bool (noVal (nth ps k))) ∧ Below wr.heap.size wr w') :=
        noVal_any _ (HM.out.at k hlt).1 wr
      have HT : noVal (nth ps k) = true → Hid (idxB noVal ps = k) := fun h => idxB_at hlt h hall.out
      have HF : noVal (nth ps k) = false → Hid (∀ j, j < k + 1 → noVal (nth ps j) = false) := fun h j hj => by
        by_cases hjk : j = k
        · subst hjk; exact h
        · exact hall.out j (by omega)
      generalize str (nth ps k).1 = X at p0 HN
      generalize str (nth ps k).2.1 = Y at p1 HN
      generalize noVal (nth ps k) = b at HN HT HF
      generalize (nth ps k).2.2 = Z at p2 HN
      cases b with
      | true =>
        have HT2 := HT rfl
        clear HT HF
        go_wp2_with fail
        refine HN.out.mono ?_
        rintro e w2 ⟨rfl, hb2⟩
        have HB2 : Hid (Below w.heap.size w w2) := bel_trans hbl.out hb2
        clear hb2
        go_wp2
        go_ret
        exact ⟨ret_int HT2.out.symm, HB2.out⟩
      | false =>
        have HF2 := HF rfl
        clear HT HF
        go_wp2_with fail
        refine HN.out.mono ?_
        rintro e w2 ⟨rfl, hb2⟩
        have HB2 : Hid (Below w.heap.size w w2) := bel_trans hbl.out hb2
        clear hb2
        go_wp2
        go_roundw
        case rel => exact ⟨k + 1, by omega, by go_num, HF2, HB2⟩
        case measure => simp [intOf]; omega
    · have HE : Hid (idxB noVal ps = -1) := idxB_none (fun j hj => hall.out j (by omega))
      go_wp2
      go_ret
      exact ⟨ret_int HE.out.symm, hbl.out⟩

set_option maxRecDepth 100000 in
set_option maxHeartbeats 1000000 in
theorem ContainsFunc_noVal (v : Value) (ps : List Prm) (hM : EachP maxLen ps) (hl : ps.length ≤ 4294967296) (w : World) (hrd : RdP v ps w) :
    Calls Tryd.prog 44 #[v, .func (.func 45) #[] #[]] w fun e w' => e = .returned (.bool (ps.any noVal)) ∧ Below w.heap.size w w' := by
  have H := IndexFunc_noVal v ps hM hl w hrd
  have HA : Hid (decide (0 ≤ idxB noVal ps) = ps.any noVal) := idxB_any _ _
  clear hrd hM
  generalize idxB noVal ps = z at *
  generalize ps.any noVal = b at *
  go_enter Tryd.func44, Tryd.ntmps44
  go_wp2_with fail
  refine H.mono ?_
  rintro e w2 ⟨rfl, hb2⟩
  go_wp2
  go_ret
  exact ⟨ret_bool HA.out, hb2⟩

set_option maxRecDepth 100000 in
set_option maxHeartbeats 1000000 in
theorem allValued_any (v : Value) (ps : List Prm) (hM : EachP maxLen ps) (hl : ps.length ≤ 4294967296) (w : World) (hrd : RdP v ps w) :
    Calls Tryd.prog 22 #[v] w fun e w' => e = .returned (.bool (!ps.any noVal)) ∧ Below w.heap.size w w' := by
  have H := ContainsFunc_noVal v ps hM hl w hrd
  clear hrd hM
  generalize ps.any noVal = b at *
  go_enter Tryd.func22, Tryd.ntmps22
  go_wp2_with fail
  refine H.mono ?_
  rintro e w2 ⟨rfl, hb2⟩
  go_wp2
  go_ret
  exact ⟨rfl, hb2⟩

end Ac
end Go.Proofs.YtnhkkemphjblhaaDoor

/-
  Texts with commas between.
-/
set_option linter.unusedVariables false
namespace Go.Proofs.YtnhkkemphjblhaaDoor
namespace Oc

def joinF : List (List UInt8) → List UInt8
  | [] => []
  | [x] => x
  | x :: y :: r => x ++ 44 :: 32 :: joinF (y :: r)
def sumL (t : List (List UInt8)) : Nat := (t.map List.length).sum
def jp (t : List (List UInt8)) (k : Nat) : List UInt8 := joinF (t.take k)
theorem joinF_snoc : ∀ (t : List (List UInt8)) (y : List UInt8), t ≠ [] → joinF (t ++ [y]) = joinF t ++ [44, 32] ++ y
  | [], y, h => absurd rfl h
  | [x], y, _ => by show x ++ 44 :: 32 :: y = x ++ [44, 32] ++ y; simp
  | x :: z :: r, y, _ => by
    have ih := joinF_snoc (z :: r) y (by simp)
    show x ++ 44 :: 32 :: joinF (z :: (r ++ [y])) = (x ++ 44 :: 32 :: joinF (z :: r)) ++ [44, 32] ++ y
    rw [show z :: (r ++ [y]) = (z :: r) ++ [y] from rfl, ih]
    simp
theorem joinF_len : ∀ t : List (List UInt8), (joinF t).length ≤ sumL t + 2 * t.length
  | [] => by simp [joinF]
  | [x] => by simp [joinF, sumL]
  | x :: y :: r => by
    have ih := joinF_len (y :: r)
    show (x ++ 44 :: 32 :: joinF (y :: r)).length ≤ x.length + sumL (y :: r) + 2 * ((y :: r).length + 1)
    rw [List.length_append, List.length_cons, List.length_cons]
    omega
theorem take_succ (t : List (List UInt8)) (k : Nat) (h : k < t.length) : t.take (k + 1) = t.take k ++ [t.getD k []] := by
  rw [List.take_add_one, List.getElem?_eq_getElem h, List.getD_eq_getElem?_getD, List.getElem?_eq_getElem h]; rfl
theorem sumL_append (a b : List (List UInt8)) : sumL (a ++ b) = sumL a + sumL b := by simp [sumL]
theorem sumL_succ (t : List (List UInt8)) (k : Nat) (h : k < t.length) : sumL (t.take (k + 1)) = sumL (t.take k) + (t.getD k []).length := by
  rw [take_succ t k h, sumL_append]; simp [sumL]
theorem sumL_take (t : List (List UInt8)) (k : Nat) : sumL (t.take k) ≤ sumL t := by
  have := sumL_append (t.take k) (t.drop k)
  rw [List.take_append_drop] at this
  omega
theorem jp_len (t : List (List UInt8)) (k : Nat) : (jp t k).length ≤ sumL t + 2 * t.length := by
  have h1 := joinF_len (t.take k)
  have h2 := sumL_take t k
  rw [List.length_take] at h1
  show (joinF (t.take k)).length ≤ _
  omega
theorem jp_one (t : List (List UInt8)) (h : 0 < t.length) : jp t 1 = t.getD 0 [] := by
  cases t with
  | nil => simp at h
  | cons x t => rfl
theorem jp_succ (t : List (List UInt8)) (k : Nat) (h : k < t.length) (h0 : 0 < k) : jp t (k + 1) = jp t k ++ [44, 32] ++ t.getD k [] := by
  unfold jp
  rw [take_succ t k h]
  exact joinF_snoc _ _ (fun e => by
    have := congrArg List.length e
    rw [List.length_take, List.length_nil] at this
    omega)
theorem jp_all (t : List (List UInt8)) : jp t t.length = joinF t := by unfold jp; rw [List.take_length]

end Oc
end Go.Proofs.YtnhkkemphjblhaaDoor
