/- Several texts as one. -/
import Derived.Test.YtenipnlpambehaaDoorZzM
import Derived.Test.YtenipnlpambehaaDoorZzJ
/-
  span: the law's same; Cut, Tell, TellNone of both; awake.
-/
set_option linter.unusedVariables false
set_option linter.unusedSimpArgs false
namespace Go.Proofs.YtenipnlpambehaaDoor
open Go.RowKit Go.Shelf
namespace Sn
open Oc Tg Ac

theorem bel_drewN {n : Nat} {w w' : World} (h : Below n w w') (k : Nat) : Below n w (w'.drewN k) := h.trans ⟨rfl, rfl, rfl, Nat.le_refl _, fun _ _ => rfl⟩

set_option maxRecDepth 100000 in
set_option maxHeartbeats 2000000 in
theorem same_any (v1 v2 : Value) (t : List Sp) (w : World) (h1 : RdN v1 t w) (h2 : RdN v2 t w) (hl : t.length ≤ 4294967296) :
    Calls Tryd.prog 14 #[v1, v2] w fun e w' => e = .returned (.bool true) ∧ Below w.heap.size w w' := by
  have H1 : Hid (RdN v1 t w) := h1
  have H2 : Hid (RdN v2 t w) := h2
  obtain ⟨a1, c1, rfl, _⟩ := h1
  obtain ⟨a2, c2, rfl, _⟩ := h2
  have hne : ((t.length : Int) != (t.length : Int)) = false := by simp
  go_enter Tryd.func14, Tryd.ntmps14
  go_wp2
  go_loopw [5] (fun i wr => ∃ k : Nat, k ≤ t.length ∧ i = .int .i64 k ∧ Hid (Below w.heap.size w wr)) (fun i _ => t.length - (intOf i).toNat)
  case atStart => exact ⟨0, Nat.zero_le _, rfl, Below.refl _ _⟩
  case round =>
    obtain ⟨k, hk, rfl, hb⟩ := hrel
    by_cases hlt : k < t.length
    · obtain ⟨a1', c1', e1', hcs1⟩ := H1.out.below hb.out
      injection e1' with e11 _ e12
      subst e11 e12
      rcases hcs1 with h | ⟨g1, o1, rfl, hlc1, hcell1⟩
      · rw [h] at hlt; simp at hlt
      obtain ⟨a2', c2', e2', hcs2⟩ := H2.out.below hb.out
      injection e2' with e21 _ e22
      subst e21 e22
      rcases hcs2 with h | ⟨g2, o2, rfl, hlc2, hcell2⟩
      · rw [h] at hlt; simp at hlt
      obtain ⟨p0, p1⟩ := hcell1 k hlt
      obtain ⟨q0, q1⟩ := hcell2 k hlt
      clear hcell1 hcell2
      generalize (nthN t k).1 = X at *
      generalize (nthN t k).2 = Y at *
      have nX : (X != X) = false := by simp
      have nY : (Y != Y) = false := by simp
      go_wp2_with fail
      go_quiet (fail)
      go_wp2
      go_roundw
      case rel => exact ⟨k + 1, by omega, by go_num, bel_drewN hb.out _⟩
      case measure => simp [intOf]; omega
    · go_wp2
      go_ret
      exact ⟨rfl, hb.out⟩

/-- A span of a body of a size. -/
def isSp (x : Sp) (size : Int) : Bool := decide (0 ≤ x.1 ∧ x.1 < x.2 ∧ x.2 ≤ size)
theorem isSp_emp {x : Sp} (h : emp x = true) (size : Int) : isSp x size = false := by
  unfold emp at h; unfold isSp; simp at *; omega
theorem isSp_wth {x : Sp} (h : emp x = false) (size : Int) : isSp x size = decide (x = wth x size) := by
  unfold emp at h; unfold isSp wth
  rw [decide_eq_decide, Prod.ext_iff]
  simp at *
  omega

end Sn
end Go.Proofs.YtenipnlpambehaaDoor

/-
  span: the document's way of merging, plainly.
-/
set_option linter.unusedVariables false
set_option linter.unusedSimpArgs false
namespace Go.Proofs.YtenipnlpambehaaDoor
open Go.RowKit
namespace Sn

/-- The spans that are kept, and the one that takes the others in. -/
def keepS (x : Sp) (kept : List Sp) (y : Sp) : Sp × List Sp :=
  if y.2 < x.1 ∨ x.2 < y.1 then (x, kept ++ [y]) else ((if y.1 < x.1 then y.1 else x.1, if y.2 > x.2 then y.2 else x.2), kept)
def keepL (x : Sp) (l : List Sp) : Sp × List Sp := l.foldl (fun s y => keepS s.1 s.2 y) (x, [])
theorem keepL_snoc (x : Sp) (l : List Sp) (y : Sp) : keepL x (l ++ [y]) = keepS (keepL x l).1 (keepL x l).2 y := by unfold keepL; rw [List.foldl_append]; rfl
structure KInv (x0 : Sp) (l : List Sp) (x : Sp) (kept : List Sp) : Prop where
  norm : Norm kept
  pos : x.1 < x.2
  apart : ∀ y ∈ kept, y.2 < x.1 ∨ x.2 < y.1
  sub : ∀ y ∈ kept, y ∈ l
  same : ∀ p, inN (kept ++ [x]) p = inN (l ++ [x0]) p
  len : kept.length ≤ l.length
theorem in1 (x : Sp) (p : Int) : inN [x] p = decide (x.1 ≤ p ∧ p < x.2) := by unfold inN; simp
theorem KInv.step {x0 x y : Sp} {l kept : List Sp} (h : KInv x0 l x kept) (hy : y.1 < y.2) (hb : ∀ z ∈ l, z.2 < y.1) : KInv x0 (l ++ [y]) (keepS x kept y).1 (keepS x kept y).2 := by
  have hs := h.same
  unfold keepS
  by_cases hc : y.2 < x.1 ∨ x.2 < y.1
  · rw [if_pos hc]
    refine ⟨Norm.app h.norm ⟨hy, fun z hz => by simp at hz, trivial⟩ (fun a ha b hbm => ?_), h.pos, fun z hz => ?_, fun z hz => ?_, fun p => ?_, by simp; exact h.len⟩
    · simp at hbm; subst hbm; exact hb a (h.sub a ha)
    · rcases List.mem_append.1 hz with hz | hz
      · exact h.apart z hz
      · simp at hz; subst hz; exact hc
    · rcases List.mem_append.1 hz with hz | hz
      · exact List.mem_append_left _ (h.sub z hz)
      · exact List.mem_append_right _ hz
    · have := hs p
      simp only [inN_app, in1] at this ⊢
      rw [Bool.or_right_comm, this, Bool.or_right_comm]
  · rw [if_neg hc]
    have hp := h.pos
    refine ⟨h.norm, ?_, fun z hz => ?_, fun z hz => List.mem_append_left _ (h.sub z hz), fun p => ?_, by have := h.len; simp; omega⟩
    · dsimp only; split <;> split <;> omega
    · have h1 := h.apart z hz
      have h2 := hb z (h.sub z hz)
      have h3 := Norm.pos h.norm z hz
      dsimp only
      left
      split <;> omega
    · have := hs p
      simp only [inN_app, in1] at this ⊢
      rw [Bool.or_right_comm, ← this, Bool.or_assoc]
      congr 1
      rw [Bool.eq_iff_iff]
      simp
      split <;> split <;> omega
theorem KInv.start {x : Sp} (h : x.1 < x.2) : KInv x [] x [] := ⟨trivial, h, fun y hy => by simp at hy, fun y hy => by simp at hy, fun _ => rfl, Nat.le_refl _⟩
theorem Norm.mem_lt {l : List Sp} (h : Norm l) {k : Nat} (hk : k < l.length) : ∀ z ∈ l.take k, z.2 < (nthN l k).1 := by
  intro z hz
  have e : l = l.take k ++ l.drop k := (List.take_append_drop k l).symm
  rw [e] at h
  refine h.cross z hz _ ?_
  have : nthN l k = l[k] := by unfold nthN; rw [List.getD_eq_getElem?_getD, List.getElem?_eq_getElem hk]; rfl
  rw [this, List.mem_iff_getElem]
  exact ⟨0, by simp; omega, by simp⟩

/-- A span put in its place. -/
def insS (x : Sp) : List Sp → List Sp
  | [] => [x]
  | z :: r => if x.1 < z.1 then x :: z :: r else z :: insS x r
theorem insS_mem (x y : Sp) : ∀ l : List Sp, y ∈ insS x l ↔ y = x ∨ y ∈ l
  | [] => by simp [insS]
  | z :: r => by
    unfold insS
    split
    · simp
    · simp [insS_mem x y r]
      constructor
      · rintro (h | h | h) <;> simp [h]
      · rintro (h | h | h) <;> simp [h]
theorem insS_in (x : Sp) (l : List Sp) (p : Int) : inN (insS x l) p = inN (l ++ [x]) p := by
  rw [Bool.eq_iff_iff, inN_t, inN_t]
  constructor
  · rintro ⟨y, hy, h⟩
    refine ⟨y, ?_, h⟩
    rcases (insS_mem x y l).1 hy with rfl | hy
    · simp
    · simp [hy]
  · rintro ⟨y, hy, h⟩
    refine ⟨y, (insS_mem x y l).2 ?_, h⟩
    simp at hy
    rcases hy with hy | rfl
    · exact .inr hy
    · exact .inl rfl
theorem insS_norm (x : Sp) (hx : x.1 < x.2) : ∀ l : List Sp, Norm l → (∀ y ∈ l, y.2 < x.1 ∨ x.2 < y.1) → Norm (insS x l)
  | [], _, _ => ⟨hx, fun y hy => by simp at hy, trivial⟩
  | z :: r, h, ha => by
    have hz := ha z List.mem_cons_self
    have zp := h.1
    unfold insS
    split
    · rename_i hc
      refine ⟨hx, fun y hy => ?_, h⟩
      rcases List.mem_cons.1 hy with rfl | hy
      · omega
      · have := h.2.1 y hy
        omega
    · rename_i hc
      refine ⟨zp, fun y hy => ?_, insS_norm x hx r h.2.2 (fun y hy => ha y (List.mem_cons_of_mem _ hy))⟩
      rcases (insS_mem x y r).1 hy with rfl | hy
      · omega
      · exact h.2.1 y hy
theorem insS_len (x : Sp) : ∀ l : List Sp, (insS x l).length = l.length + 1
  | [] => rfl
  | z :: r => by
    unfold insS
    split
    · simp
    · simp [insS_len x r]
/-- How far a span is put in its place. -/
def InsI (x : Sp) (l : List Sp) (k : Nat) (out : List Sp) (b : Bool) : Prop := insS x l = out ++ (if b = true then l.drop k else insS x (l.drop k))
theorem drop_nthN (l : List Sp) (k : Nat) (hk : k < l.length) : l.drop k = nthN l k :: l.drop (k + 1) := by
  have : nthN l k = l[k] := by unfold nthN; rw [List.getD_eq_getElem?_getD, List.getElem?_eq_getElem hk]; rfl
  rw [this, List.drop_eq_getElem_cons hk]
theorem InsI.start (x : Sp) (l : List Sp) : InsI x l 0 [] false := by unfold InsI; simp
theorem InsI.behind {x : Sp} {l out : List Sp} {k : Nat} (h : InsI x l k out true) (hk : k < l.length) : InsI x l (k + 1) (out ++ [nthN l k]) true := by
  unfold InsI at *
  rw [h, if_pos rfl, if_pos rfl, drop_nthN l k hk]
  simp
theorem InsI.here {x : Sp} {l out : List Sp} {k : Nat} (h : InsI x l k out false) (hk : k < l.length) (hc : x.1 < (nthN l k).1) : InsI x l (k + 1) (out ++ [x] ++ [nthN l k]) true := by
  unfold InsI at *
  rw [h, if_neg (by simp), if_pos rfl, drop_nthN l k hk]
  unfold insS
  rw [if_pos hc]
  simp
theorem InsI.on {x : Sp} {l out : List Sp} {k : Nat} (h : InsI x l k out false) (hk : k < l.length) (hc : ¬ x.1 < (nthN l k).1) : InsI x l (k + 1) (out ++ [nthN l k]) false := by
  unfold InsI at *
  rw [h, if_neg (by simp), if_neg (by simp), drop_nthN l k hk]
  conv => lhs; unfold insS
  rw [if_neg hc]
  simp
theorem InsI.last {x : Sp} {l out : List Sp} (h : InsI x l l.length out true) : out = insS x l := by unfold InsI at h; rw [h]; simp
theorem InsI.none {x : Sp} {l out : List Sp} (h : InsI x l l.length out false) : out ++ [x] = insS x l := by unfold InsI at h; rw [h]; simp [insS]

/-- What the document's merging gives behind these. -/
def DInv (p out : List Sp) : Prop := Norm out ∧ (∀ q, inN out q = inN p q) ∧ out.length ≤ p.length
theorem DInv.skip {p out : List Sp} {x : Sp} (h : DInv p out) (hx : ¬ x.1 < x.2) : DInv (p ++ [x]) out := by
  refine ⟨h.1, fun q => ?_, by have := h.2.2; simp; omega⟩
  rw [inN_app, h.2.1 q, in1]
  have : decide (x.1 ≤ q ∧ q < x.2) = false := by simp; omega
  rw [this, Bool.or_false]
theorem DInv.next {p out kept : List Sp} {x0 x : Sp} (h : DInv p out) (hk : KInv x0 out x kept) : DInv (p ++ [x0]) (insS x kept) := by
  refine ⟨insS_norm x hk.pos kept hk.norm hk.apart, fun q => ?_, by rw [insS_len]; have := h.2.2; have := hk.len; simp; omega⟩
  rw [insS_in, hk.same q, inN_app, inN_app, h.2.1 q]

end Sn
end Go.Proofs.YtenipnlpambehaaDoor
