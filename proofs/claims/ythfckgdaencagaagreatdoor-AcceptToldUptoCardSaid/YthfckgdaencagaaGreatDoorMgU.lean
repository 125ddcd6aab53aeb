/- Several texts as one. -/
import Derived.Test.YthfckgdaencagaaGreatDoorMgT
import Derived.Deep.Cut
import Derived.Deep.RegionWith
import Derived.Test.YthfckgdaencagaaGreatDoorMgP
import Derived.Test.YthfckgdaencagaaGreatDoorMgR
/-
  How narrow a range is: both.
-/
set_option maxRecDepth 100000
set_option linter.unusedVariables false
set_option linter.unusedSimpArgs false
namespace Go.Proofs.YthfckgdaencagaaGreatDoor
open Go.RowKit Go.Shelf
namespace Ac
open Oc Tg

/-- Is the part named? -/
def nmd (A : ByteArray) : Int := if (A.toList == [42]) then 0 else 1

theorem named_any (A : ByteArray) (w : World) : Calls Tryz.prog 74 #[.string A] w fun e w' => e = .returned (.int .i64 (nmd A)) ∧ w' = w := by
  cases h : (A.toList == [42])
  · have e : nmd A = 1 := by unfold nmd; rw [h]; rfl
    rw [e]
    clear e
    go_enter Tryz.func74, Tryz.ntmps74
    go_wp2
    go_ret
    exact ⟨rfl, rfl⟩
  · have e : nmd A = 0 := by unfold nmd; rw [h]; rfl
    rw [e]
    clear e
    go_enter Tryz.func74, Tryz.ntmps74
    go_wp2
    go_ret
    exact ⟨rfl, rfl⟩

/-- The document's number. -/
def narrowR (A B : ByteArray) (n : Nat) : Int := (n : Int) + 2000000000000 * nmd B + 1000000000000 * nmd A

set_option maxHeartbeats 1000000 in
theorem rnarrow_any (A B : ByteArray) (a : Option Addr) (n c : Nat) (hn : n ≤ 4294967296) (w : World) : Calls Tryz.prog 48 #[.agg #[.string A, .string B, .slice a n c]] w fun e w' => e = .returned (.int .i64 (narrowR A B n)) ∧ Below w.heap.size w w' := by
  have hb : Hid (Below w.heap.size w (w.alloc (.cells #[.string A, .string B, .slice a n c] 40))) := (Below.refl _ w).alloc (Nat.le_refl _) _
  have c0 : (w.alloc (.cells #[.string A, .string B, .slice a n c] 40)).cell? ⟨w.heap.size, 0, none⟩ = some (.string A) := by simp
  have c1 : (w.alloc (.cells #[.string A, .string B, .slice a n c] 40)).cell? ⟨w.heap.size, 1, none⟩ = some (.string B) := by simp
  have c2 : (w.alloc (.cells #[.string A, .string B, .slice a n c] 40)).cell? ⟨w.heap.size, 2, none⟩ = some (.slice a n c) := by simp
  obtain ⟨R, hR⟩ : ∃ R, R = narrowR A B n := ⟨_, rfl⟩
  rw [← hR]
  cases hB : (B.toList == [42]) <;> cases hA : (A.toList == [42])
  · have HR : Hid (R = (n : Int) + 2000000000000 + 1000000000000) := hR.trans (by unfold narrowR nmd; rw [hA, hB]; rfl)
    clear hR
    go_enter Tryz.func48, Tryz.ntmps48
    go_wp2
    go_ret
    rw [HR.out]
    exact ⟨rfl, hb.out⟩
  · have HR : Hid (R = (n : Int) + 2000000000000) := hR.trans (by unfold narrowR nmd; rw [hA, hB]; simp)
    clear hR
    go_enter Tryz.func48, Tryz.ntmps48
    go_wp2
    go_ret
    rw [HR.out]
    exact ⟨rfl, hb.out⟩
  · have HR : Hid (R = (n : Int) + 1000000000000) := hR.trans (by unfold narrowR nmd; rw [hA, hB]; simp)
    clear hR
    go_enter Tryz.func48, Tryz.ntmps48
    go_wp2
    go_ret
    rw [HR.out]
    exact ⟨rfl, hb.out⟩
  · have HR : Hid (R = (n : Int)) := hR.trans (by unfold narrowR nmd; rw [hA, hB]; simp)
    clear hR
    go_enter Tryz.func48, Tryz.ntmps48
    go_wp2
    go_ret
    rw [HR.out]
    exact ⟨rfl, hb.out⟩

end Ac
end Go.Proofs.YthfckgdaencagaaGreatDoor

/-
  Media types and words with parameters, plainly: the two ways to read them.
-/
set_option linter.unusedVariables false
set_option linter.unusedSimpArgs false
namespace Go.Proofs.YthfckgdaencagaaGreatDoor
namespace Ac
open Oc Tg

/-- A byte that ends what stands ahead of parameters. -/
def endB (c : UInt8) : Bool := c == 59 || c == 32 || c == 9
def hdLen (l : List UInt8) : Nat := (l.takeWhile (fun c => !endB c)).length
def lowP (p : Prm) : Prm := (lower p.1, p.2.1, p.2.2)
/-- The parameters go on to the end. -/
def full (l : List UInt8) : Prop := (paramsR l).2.2 = 0 ∧ (paramsR l).2.1 = l.length
instance (l : List UInt8) : Decidable (full l) := by unfold full; infer_instance
def psOf (l : List UInt8) : List Prm := (paramsR l).1.map lowP
/-- What stands ahead, and the parameters. -/
def cutP (l : List UInt8) : Option (List UInt8 × List Prm) := if full (l.drop (hdLen l)) then some (l.take (hdLen l), psOf (l.drop (hdLen l))) else none
abbrev Med := List UInt8 × List UInt8 × List Prm
/-- A media type or a range. -/
def med (l : List UInt8) : Option Med := match cutP l with
  | none => none
  | some x => if isTok (cutA 47 x.1) && isTok (cutB 47 x.1) then some (lower (cutA 47 x.1), lower (cutB 47 x.1), x.2) else none
/-- The document's. -/
def jAt (l : List UInt8) : Nat := tokLen l + 1 + tokLen (l.drop (tokLen l + 1))
def condR (l : List UInt8) : Prop := 0 < tokLen l ∧ tokLen l < l.length ∧ l.getD (tokLen l) 0 = 47 ∧ 0 < tokLen (l.drop (tokLen l + 1))
instance (l : List UInt8) : Decidable (condR l) := by unfold condR; infer_instance
def partsR (l : List UInt8) : Option Med :=
  if condR l ∧ full (l.drop (jAt l)) then some (lower (l.take (tokLen l)), lower ((l.drop (tokLen l + 1)).take (tokLen (l.drop (tokLen l + 1)))), psOf (l.drop (jAt l))) else none
/-- A word with parameters: the program's, and the document's. -/
def wrd (l : List UInt8) : Option (List UInt8 × List Prm) := match cutP l with
  | none => none
  | some x => if isTok x.1 then some x else none
def wrdR (l : List UInt8) : Option (List UInt8 × List Prm) := if 0 < tokLen l ∧ full (l.drop (tokLen l)) then some (l.take (tokLen l), psOf (l.drop (tokLen l))) else none

theorem tw_len {p : UInt8 → Bool} (K R : List UInt8) (hK : ∀ c ∈ K, p c = true) (hR : ∀ c, R.head? = some c → p c = false) : ((K ++ R).takeWhile p).length = K.length := by
  induction K with
  | nil =>
    cases R with
    | nil => rfl
    | cons c R => simp [List.takeWhile, hR c rfl]
  | cons a K ih =>
    have ha := hK a (by simp)
    simp only [List.cons_append, List.takeWhile_cons, ha, if_true, List.length_cons]
    rw [ih (fun c hc => hK c (by simp [hc]))]
theorem tw_take {p : UInt8 → Bool} (l : List UInt8) : ∀ c ∈ l.take (l.takeWhile p).length, p c = true := by
  have e : l.take (l.takeWhile p).length = l.takeWhile p := by
    have h := List.take_left (l₁ := l.takeWhile p) (l₂ := l.dropWhile p)
    rwa [List.takeWhile_append_dropWhile] at h
  rw [e]
  intro c hc
  have := List.all_takeWhile (p := p) (l := l)
  exact List.all_eq_true.1 this c hc
theorem tw_drop {p : UInt8 → Bool} (l : List UInt8) : ∀ c, (l.drop (l.takeWhile p).length).head? = some c → p c = false := by
  intro c hc
  have e : l.drop (l.takeWhile p).length = l.dropWhile p := by
    have h := List.drop_left (l₁ := l.takeWhile p) (l₂ := l.dropWhile p)
    rwa [List.takeWhile_append_dropWhile] at h
  rw [e] at hc
  have := List.head?_dropWhile_not p l
  rw [hc] at this
  simpa using this
theorem tok_end {c : UInt8} (h : tokB c = true) : endB c = false := by
  unfold endB
  rw [Bool.or_eq_false_iff, Bool.or_eq_false_iff]
  refine ⟨⟨?_, ?_⟩, ?_⟩
  all_goals
    rw [beq_eq_false_iff_ne]
    rintro rfl
    revert h
    decide
theorem tok_slash {c : UInt8} (h : tokB c = true) : c ≠ 47 := by rintro rfl; revert h; decide
theorem isTok_iff (l : List UInt8) : isTok l = true ↔ l ≠ [] ∧ ∀ c ∈ l, tokB c = true := by
  unfold isTok
  rw [Bool.and_eq_true, List.all_eq_true]
  cases l <;> simp
/-- Where neither a blank nor a semicolon stands ahead there are no parameters. -/
theorem params_none (c : UInt8) (r : List UInt8) (h : endB c = false) : paramsR (c :: r) = ([], 0, 0) := by
  have hb : blankB c = false := by
    unfold endB at h
    rw [Bool.or_eq_false_iff, Bool.or_eq_false_iff] at h
    unfold blankB
    have h1 : c.toNat ≠ 32 := fun e => beq_eq_false_iff_ne.1 h.1.2 (UInt8.toNat_inj.1 e)
    have h2 : c.toNat ≠ 9 := fun e => beq_eq_false_iff_ne.1 h.2 (UInt8.toNat_inj.1 e)
    simp [blankI]
    omega
  have h59 : c ≠ 59 := by
    rintro rfl
    revert h; decide
  have e0 : bl (c :: r) = 0 := by simp [bl, List.takeWhile, hb]
  have hs : semi (c :: r) (bl (c :: r)) = false := by rw [e0]; unfold semi; simp [h59]
  exact paramsR_some (x := ([], 0)) (prm_end (pstep_stop hs))
theorem not_full (c : UInt8) (r : List UInt8) (h : endB c = false) : ¬ full (c :: r) := by
  unfold full
  rw [params_none c r h]
  simp
  omega
theorem full_head {l : List UInt8} (h : full l) : ∀ c, l.head? = some c → endB c = true := by
  intro c hc
  cases l with
  | nil => simp at hc
  | cons a r =>
    obtain rfl : a = c := by simpa using hc
    cases e : endB a with
    | true => rfl
    | false => exact absurd h (not_full a r e)

/-- The parts of a text that begins with a token. -/
theorem tok_parts (l : List UInt8) : l = l.take (tokLen l) ++ l.drop (tokLen l) ∧ (∀ c ∈ l.take (tokLen l), tokB c = true) ∧ (∀ c, (l.drop (tokLen l)).head? = some c → tokB c = false) :=
  ⟨(List.take_append_drop _ _).symm, tw_take l, tw_drop l⟩
theorem tokLen_app (K R : List UInt8) (hK : ∀ c ∈ K, tokB c = true) (hR : ∀ c, R.head? = some c → tokB c = false) : tokLen (K ++ R) = K.length := tw_len K R hK hR
theorem hdLen_app (H R : List UInt8) (hH : ∀ c ∈ H, endB c = false) (hR : ∀ c, R.head? = some c → endB c = true) : hdLen (H ++ R) = H.length :=
  tw_len H R (fun c hc => by rw [hH c hc]; rfl) (fun c hc => by rw [hR c hc]; rfl)
theorem end_tok {c : UInt8} (h : endB c = true) : tokB c = false := by
  cases e : tokB c with
  | false => rfl
  | true => rw [tok_end e] at h; cases h

theorem wrd_eq (l : List UInt8) : wrd l = wrdR l := by
  unfold wrdR
  split
  · rename_i h
    obtain ⟨e, hK, hR⟩ := tok_parts l
    have hh : hdLen l = tokLen l := by
      have := hdLen_app (l.take (tokLen l)) (l.drop (tokLen l)) (fun c hc => tok_end (hK c hc)) (full_head h.2)
      rw [← e] at this
      rw [this, List.length_take]
      have := tokLen_le l
      omega
    unfold wrd cutP
    rw [hh, if_pos h.2]
    have : isTok (l.take (tokLen l)) = true := (isTok_iff _).2 ⟨fun e => by
      have h2 := congrArg List.length e
      rw [List.length_take, List.length_nil] at h2
      have h3 := tokLen_le l
      have h4 := h.1
      omega, hK⟩
    simp only [this, if_true]
  · rename_i h
    unfold wrd cutP
    split
    · rfl
    · rename_i x hx
      split at hx
      · rename_i hf
        cases hx
        split
        · rename_i ht
          exfalso
          apply h
          obtain ⟨hne, hall⟩ := (isTok_iff _).1 ht
          have ht2 : tokLen l = hdLen l := by
            have := tokLen_app (l.take (hdLen l)) (l.drop (hdLen l)) hall (fun c hc => end_tok (full_head hf c hc))
            rw [List.take_append_drop] at this
            rw [this, List.length_take]
            have : hdLen l ≤ l.length := (List.takeWhile_sublist _).length_le
            omega
          rw [ht2]
          refine ⟨?_, hf⟩
          rcases Nat.eq_zero_or_pos (hdLen l) with h0 | h0
          · rw [h0] at hne; simp at hne
          · exact h0
        · rfl
      · cases hx

theorem cut_slash (K S : List UInt8) (hK : ∀ c ∈ K, tokB c = true) : cutA 47 (K ++ 47 :: S) = K ∧ cutB 47 (K ++ 47 :: S) = S := by
  have e : ∀ c ∈ K, (c != 47) = true := fun c hc => by simp [tok_slash (hK c hc)]
  constructor
  · unfold cutA
    rw [List.takeWhile_append_of_pos e]
    simp
  · unfold cutB
    rw [List.dropWhile_append_of_pos e]
    simp
theorem shape (K S R : List UInt8) (hK : ∀ c ∈ K, tokB c = true) (hS : ∀ c ∈ S, tokB c = true) (hR : ∀ c, R.head? = some c → tokB c = false) :
    tokLen (K ++ 47 :: (S ++ R)) = K.length ∧ (K ++ 47 :: (S ++ R)).drop (K.length + 1) = S ++ R ∧ tokLen (S ++ R) = S.length ∧ (K ++ 47 :: (S ++ R)).take K.length = K := by
  refine ⟨tokLen_app _ _ hK (fun c hc => by simp at hc; subst hc; decide), ?_, tokLen_app _ _ hS hR, List.take_left⟩
  rw [show K ++ 47 :: (S ++ R) = (K ++ [47]) ++ (S ++ R) by simp, show K.length + 1 = (K ++ [47]).length by simp, List.drop_left]
theorem parts_shape (K S R : List UInt8) (hK : ∀ c ∈ K, tokB c = true) (hS : ∀ c ∈ S, tokB c = true) (hR : ∀ c, R.head? = some c → tokB c = false) (kn : K ≠ []) (sn : S ≠ []) :
    partsR (K ++ 47 :: (S ++ R)) = if full R then some (lower K, lower S, psOf R) else none := by
  obtain ⟨a, b, c, d⟩ := shape K S R hK hS hR
  have p1 : 0 < K.length := List.length_pos_iff.2 kn
  have p2 : 0 < S.length := List.length_pos_iff.2 sn
  have hj : (K ++ 47 :: (S ++ R)).drop (jAt (K ++ 47 :: (S ++ R))) = R := by
    unfold jAt
    rw [a, b, c, ← List.drop_drop, b, List.drop_left]
  have hc : condR (K ++ 47 :: (S ++ R)) := by
    unfold condR
    rw [a, b, c]
    exact ⟨p1, by simp, by simp [List.getD_eq_getElem?_getD], p2⟩
  unfold partsR
  rw [hj, a, b, c, d, List.take_left]
  by_cases hf : full R
  · rw [if_pos ⟨hc, hf⟩, if_pos hf]
  · rw [if_neg (fun h => hf h.2), if_neg hf]
theorem med_shape (K S R : List UInt8) (hK : ∀ c ∈ K, tokB c = true) (hS : ∀ c ∈ S, tokB c = true) (hR : ∀ c, R.head? = some c → endB c = true) (kn : K ≠ []) (sn : S ≠ []) :
    med (K ++ 47 :: (S ++ R)) = if full R then some (lower K, lower S, psOf R) else none := by
  have hh : hdLen (K ++ 47 :: (S ++ R)) = (K ++ 47 :: S).length := by
    rw [show K ++ 47 :: (S ++ R) = (K ++ 47 :: S) ++ R by simp]
    exact hdLen_app _ _ (fun c hc => by
      rcases List.mem_append.1 hc with h | h
      · exact tok_end (hK c h)
      · rcases List.mem_cons.1 h with rfl | h
        · decide
        · exact tok_end (hS c h)) hR
  have hd : (K ++ 47 :: (S ++ R)).drop (K ++ 47 :: S).length = R := by
    rw [show K ++ 47 :: (S ++ R) = (K ++ 47 :: S) ++ R by simp, List.drop_left]
  have ht : (K ++ 47 :: (S ++ R)).take (K ++ 47 :: S).length = K ++ 47 :: S := by
    rw [show K ++ 47 :: (S ++ R) = (K ++ 47 :: S) ++ R by simp, List.take_left]
  obtain ⟨c1, c2⟩ := cut_slash K S hK
  unfold med cutP
  rw [hh, hd, ht]
  by_cases hf : full R
  · rw [if_pos hf, if_pos hf]
    simp only [c1, c2, (isTok_iff _).2 ⟨kn, hK⟩, (isTok_iff _).2 ⟨sn, hS⟩, Bool.and_self, if_true]
  · rw [if_neg hf, if_neg hf]
theorem med_some (l : List UInt8) (h : med l ≠ none) : ∃ K S R, l = K ++ 47 :: (S ++ R) ∧ (∀ c ∈ K, tokB c = true) ∧ (∀ c ∈ S, tokB c = true) ∧ K ≠ [] ∧ S ≠ [] ∧ (∀ c, R.head? = some c → endB c = true) := by
  unfold med cutP at h
  by_cases hf : full (l.drop (hdLen l))
  · rw [if_pos hf] at h
    dsimp only at h
    split at h
    · rename_i htk
      rw [Bool.and_eq_true] at htk
      obtain ⟨t1, t2⟩ := htk
      obtain ⟨n1, a1⟩ := (isTok_iff _).1 t1
      obtain ⟨n2, a2⟩ := (isTok_iff _).1 t2
      have hhas : has 47 (l.take (hdLen l)) = true := by
        cases hx : has 47 (l.take (hdLen l)) with
        | true => rfl
        | false => exact absurd (cutB_none 47 _ hx) n2
      have hap := cut_app 47 _ hhas
      refine ⟨_, _, l.drop (hdLen l), ?_, a1, a2, n1, n2, full_head hf⟩
      rw [← List.cons_append, ← List.append_assoc, hap, List.take_append_drop]
    · exact absurd rfl h
  · rw [if_neg hf] at h
    exact absurd rfl h
theorem cond_shape (l : List UInt8) (hc : condR l) : ∃ K S R, l = K ++ 47 :: (S ++ R) ∧ (∀ c ∈ K, tokB c = true) ∧ (∀ c ∈ S, tokB c = true) ∧ K ≠ [] ∧ S ≠ [] ∧ (∀ c, R.head? = some c → tokB c = false) := by
  obtain ⟨h0, h1, h2, h3⟩ := hc
  obtain ⟨e, hK, hR⟩ := tok_parts l
  obtain ⟨e2, hS, hR2⟩ := tok_parts (l.drop (tokLen l + 1))
  have hd : l.drop (tokLen l) = 47 :: l.drop (tokLen l + 1) := by
    rw [List.drop_eq_getElem_cons h1]
    rw [List.getD_eq_getElem?_getD, List.getElem?_eq_getElem h1] at h2
    simp at h2
    rw [h2]
  have hKl : (l.take (tokLen l)).length = tokLen l := by rw [List.length_take]; omega
  have hSl : ((l.drop (tokLen l + 1)).take (tokLen (l.drop (tokLen l + 1)))).length = tokLen (l.drop (tokLen l + 1)) := by
    rw [List.length_take]; have := tokLen_le (l.drop (tokLen l + 1)); omega
  refine ⟨_, _, _, ?_, hK, hS, fun h => ?_, fun h => ?_, hR2⟩
  · rw [← e2, ← hd]; exact e
  · rw [h] at hKl; simp at hKl; omega
  · rw [h] at hSl; simp at hSl; omega
theorem med_eq (l : List UInt8) : med l = partsR l := by
  by_cases hm : med l = none
  · rw [hm]
    unfold partsR
    split
    · rename_i h
      obtain ⟨K, S, R, rfl, hK, hS, kn, sn, hR⟩ := cond_shape l h.1
      exfalso
      have hf : full R := by
        have := h.2
        obtain ⟨a, b, c, d⟩ := shape K S R hK hS hR
        unfold jAt at this
        rw [a, b, c, ← List.drop_drop, b, List.drop_left] at this
        exact this
      rw [med_shape K S R hK hS (full_head hf) kn sn, if_pos hf] at hm
      cases hm
    · rfl
  · obtain ⟨K, S, R, rfl, hK, hS, kn, sn, hR⟩ := med_some l hm
    rw [med_shape K S R hK hS hR kn sn, parts_shape K S R hK hS (fun c hc => end_tok (hR c hc)) kn sn]

end Ac
end Go.Proofs.YthfckgdaencagaaGreatDoor
