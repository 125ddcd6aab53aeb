/-
  span: what Parts writes is read back by Pieces (plain); what was asked for lies in what was merged.
-/
import Derived.Test.YthdfgepnadgkjaaGreatDoorPcL
import Derived.Test.YthdfgepnadgkjaaGreatDoorZzN
import Derived.Test.YthdfgepnadgkjaaGreatDoorMgM
set_option linter.unusedVariables false
set_option linter.unusedSimpArgs false
namespace Go.Proofs.YthdfgepnadgkjaaGreatDoor
open Go.RowKit Go.Shelf
namespace Sn
open Oc Tg Ac

theorem dln_ok {h V rest : List UInt8} (hV : isFld V = true) : dlnR (h ++ (V ++ (13 :: 10 :: rest))) h = (V, h.length + V.length + 2, 0) := by
  have e1 : shrt (h ++ (V ++ (13 :: 10 :: rest))) h = false := by unfold shrt; rw [decide_eq_false (by simp), Bool.false_and]
  have e2 : Lib.hasPrefix (h ++ (V ++ (13 :: 10 :: rest))) h = true := isPre_append _ _
  have e3 : ((h ++ (V ++ (13 :: 10 :: rest))).drop h.length).takeWhile fieldB = V := by
    rw [List.drop_left, List.takeWhile_append_of_pos (List.all_eq_true.1 hV)]
    simp [List.takeWhile_cons, show fieldB 13 = false by decide]
  have e4 : ((h ++ (V ++ (13 :: 10 :: rest))).drop h.length).drop V.length = 13 :: 10 :: rest := by rw [List.drop_left, List.drop_left]
  have e5 : shrt (13 :: 10 :: rest) [13, 10] = false := by unfold shrt; rw [decide_eq_false (by simp), Bool.false_and]
  have e6 : Lib.hasPrefix (13 :: 10 :: rest) [13, 10] = true := by simp [Lib.hasPrefix, List.isPrefixOf]
  unfold dlnR
  rw [e1, e2, e3, e4, e5, e6]
  simp
theorem fld_dig (c : UInt8) (h : 48 ≤ c.toNat ∧ c.toNat ≤ 57) : fieldB c = true := by
  unfold fieldB
  first
  | (unfold fieldI; exact decide_eq_true (by omega))
  | (simp; omega)
theorem tel_fld {x : Sp} {size : Int} (h : isSp x size = true) : isFld (telR x size).1 = true := by
  have hh : 0 ≤ x.1 ∧ x.1 < x.2 ∧ x.2 ≤ size := of_decide_eq_true h
  unfold telR extR isFld
  rw [if_pos h]
  have di : ∀ n : Int, 0 ≤ n → (Lib.itoa n).all fieldB = true := fun n hn => List.all_eq_true.2 fun c hc => fld_dig c (itoa_dig hn c hc)
  simp only [List.all_append, di x.1 hh.1, di (x.2 - 1) (by omega), di size (by omega)]
  decide
/-- A piece that was written. -/
def pcOf (md body : List UInt8) (x : Sp) : Pc := ⟨md, x, body.length, (body.drop x.1.toNat).take (x.2.toNat - x.1.toNat)⟩
theorem piece_back {md body rest : List UInt8} {x : Sp} (hm : isFld md = true) (hx : isSp x body.length = true) (hz : (body.length : Int) ≤ 4611686018427387904) :
    dpcR (mdB md ++ rgB (telR x body.length).1 ++ [13, 10] ++ (body.drop x.1.toNat).take (x.2.toNat - x.1.toNat) ++ rest) = (pcOf md body x, 0, (mdB md).length + (rgB (telR x body.length).1).length + 2 + (x.2 - x.1).toNat) := by
  have hh : 0 ≤ x.1 ∧ x.1 < x.2 ∧ x.2 ≤ (body.length : Int) := of_decide_eq_true hx
  have htl := tel_fld hx
  have htb := tel_back hx hz
  have hB : ((body.drop x.1.toNat).take (x.2.toNat - x.1.toNat)).length = (x.2 - x.1).toNat := by rw [List.length_take, List.length_drop]; omega
  have hn : x.2.toNat - x.1.toNat = (x.2 - x.1).toNat := by omega
  unfold pcOf
  rw [hn] at hB ⊢
  generalize (telR x body.length).1 = tl at *
  generalize (body.drop x.1.toNat).take (x.2 - x.1).toNat = B at *
  have f1 : mdB md ++ rgB tl ++ [13, 10] ++ B ++ rest = ctH ++ (md ++ (13 :: 10 :: (rgB tl ++ [13, 10] ++ B ++ rest))) := by unfold mdB ctH; simp
  have f2 : rgB tl ++ [13, 10] ++ B ++ rest = crH ++ (tl ++ (13 :: 10 :: ([13, 10] ++ B ++ rest))) := by unfold rgB crH; simp
  have d1 : dlnR (mdB md ++ rgB tl ++ [13, 10] ++ B ++ rest) ctH = (md, (mdB md).length, 0) := by
    rw [f1, dln_ok hm]; unfold mdB ctH; simp; omega
  have d2 : dlnR (rgB tl ++ [13, 10] ++ B ++ rest) crH = (tl, (rgB tl).length, 0) := by
    rw [f2, dln_ok htl]; unfold rgB crH; simp; omega
  have g1 : (mdB md ++ rgB tl ++ [13, 10] ++ B ++ rest).drop (mdB md).length = rgB tl ++ [13, 10] ++ B ++ rest := by
    rw [List.append_assoc, List.append_assoc, List.append_assoc, List.drop_left]; simp
  have g2 : (mdB md ++ rgB tl ++ [13, 10] ++ B ++ rest).drop ((mdB md).length + (rgB tl).length) = 13 :: 10 :: (B ++ rest) := by
    rw [← List.drop_drop, g1, List.append_assoc, List.append_assoc, List.drop_left]; simp
  have g3 : (mdB md ++ rgB tl ++ [13, 10] ++ B ++ rest).drop ((mdB md).length + (rgB tl).length + 2) = B ++ rest := by
    rw [← List.drop_drop, g2]; rfl
  have e5 : shrt (13 :: 10 :: (B ++ rest)) [13, 10] = false := by unfold shrt; rw [decide_eq_false (by simp), Bool.false_and]
  have e6 : Lib.hasPrefix (13 :: 10 :: (B ++ rest)) [13, 10] = true := by simp [Lib.hasPrefix, List.isPrefixOf]
  have hlen : (mdB md ++ rgB tl ++ [13, 10] ++ B ++ rest).length = (mdB md).length + (rgB tl).length + 2 + B.length + rest.length := by simp; omega
  unfold dpcR
  rw [d1]
  dsimp only
  rw [g1, d2]
  dsimp only
  rw [htb, g2, g3, e5, e6, hlen]
  dsimp only
  have hx0 : ¬ (x = (0, 0)) := fun e => by rw [e] at hh; omega
  rw [if_neg (by decide), if_neg (by decide), if_neg (by decide), if_neg (by decide), if_neg (by simp [hx0]), if_neg (by decide), if_neg (by decide), if_neg (by omega)]
  rw [List.take_left' hB]
theorem go_back {bd md body : List UInt8} (hm : isFld md = true) (hz : (body.length : Int) ≤ 4611686018427387904) (l : List UInt8) : ∀ (t : List Sp) (P : List UInt8) (acc : List Pc) (f : Nat), l = P ++ (prtsB bd md body t ++ clB bd) → (∀ x ∈ t, isSp x body.length = true) → (acc ≠ [] ∨ t ≠ []) → t.length < f →
    dgo (opB bd) (clB bd) l f P.length acc = (acc ++ t.map (pcOf md body), 0, 0)
  | [], P, acc, 0, _, _, _, hf => by simp at hf
  | _ :: _, P, acc, 0, _, _, _, hf => by simp at hf
  | [], P, acc, f + 1, hl, _, ha, hf => by
    have hacc : acc ≠ [] := ha.resolve_right (by simp)
    have hl0 : 0 < acc.length := List.length_pos_iff.2 hacc
    have hd : l.drop P.length = clB bd := by rw [hl, List.drop_left]; rfl
    have hp : Lib.hasPrefix (clB bd) (clB bd) = true := by have := isPre_append (clB bd) []; rw [List.append_nil] at this; exact this
    have hlen : ¬ (P.length + (clB bd).length < l.length) := by rw [hl]; simp [prtsB]
    rw [dgo, hd, hp, if_pos ⟨hl0, rfl⟩, if_neg hlen]
    simp
  | x :: t, P, acc, f + 1, hl, hs, ha, hf => by
    have hx := hs x (by simp)
    have hpt : prtsB bd md body (x :: t) = partB bd md body x ++ prtsB bd md body t := rfl
    have hpb : partB bd md body x = opB bd ++ (mdB md ++ rgB (telR x body.length).1 ++ [13, 10] ++ (body.drop x.1.toNat).take (x.2.toNat - x.1.toNat)) := by unfold partB; simp
    have hd : l.drop P.length = opB bd ++ ((mdB md ++ rgB (telR x body.length).1 ++ [13, 10] ++ (body.drop x.1.toNat).take (x.2.toNat - x.1.toNat)) ++ (prtsB bd md body t ++ clB bd)) := by
      rw [hl, List.drop_left, hpt, hpb]; simp
    have hd2 : l.drop (P.length + (opB bd).length) = mdB md ++ rgB (telR x body.length).1 ++ [13, 10] ++ (body.drop x.1.toNat).take (x.2.toNat - x.1.toNat) ++ (prtsB bd md body t ++ clB bd) := by
      rw [← List.drop_drop, hd, List.drop_left]
    have hne : ∀ y, opB bd ++ y ≠ clB bd ∧ ∀ z, opB bd ++ y ≠ clB bd ++ z := fun y => by
      refine ⟨fun e => ?_, fun z e => ?_⟩
      · unfold opB clB at e
        simp only [List.append_assoc] at e
        have := List.append_cancel_left (List.append_cancel_left e)
        simp at this
      · unfold opB clB at e
        simp only [List.append_assoc] at e
        have := List.append_cancel_left (List.append_cancel_left e)
        simp at this
    have hop : Lib.hasPrefix (l.drop P.length) (opB bd) = true := by rw [hd]; exact isPre_append _ _
    have hcl : Lib.hasPrefix (l.drop P.length) (clB bd) = false := by
      cases e : Lib.hasPrefix (l.drop P.length) (clB bd) with
      | false => rfl
      | true => obtain ⟨z, hzz⟩ := pre_of e; rw [hd] at hzz; exact ((hne _).2 z hzz).elim
    have s1 : shrt (l.drop P.length) (opB bd) = false := by unfold shrt; rw [hd, decide_eq_false (by simp), Bool.false_and]
    have s2 : shrt (l.drop P.length) (clB bd) = false := by
      unfold shrt
      cases e : Lib.hasPrefix (clB bd) (l.drop P.length) with
      | false => rw [Bool.and_false]
      | true =>
        obtain ⟨z, hzz⟩ := pre_of e
        rw [hd, List.append_assoc] at hzz
        exact ((hne _).1 hzz.symm).elim
    have hb := piece_back (rest := prtsB bd md body t ++ clB bd) hm hx hz
    have hB : ((body.drop x.1.toNat).take (x.2.toNat - x.1.toNat)).length = (x.2 - x.1).toNat := by
      have hh : 0 ≤ x.1 ∧ x.1 < x.2 ∧ x.2 ≤ (body.length : Int) := of_decide_eq_true hx
      rw [List.length_take, List.length_drop]; omega
    have ih := go_back (bd := bd) hm hz l t (P ++ partB bd md body x) (acc ++ [pcOf md body x]) f (by rw [hl, hpt]; simp) (fun y hy => hs y (by simp [hy])) (.inl (by simp)) (by simp at hf; omega)
    have hlen : (P ++ partB bd md body x).length = P.length + (opB bd).length + ((mdB md).length + (rgB (telR x body.length).1).length + 2 + (x.2 - x.1).toNat) := by
      rw [List.length_append, hpb, ← hB]; simp only [List.length_append, List.length_cons, List.length_nil]; omega
    rw [hlen] at ih
    rw [dgo, hd2, hb, hop, hcl, s1, s2]
    simp only [Bool.false_eq_true, and_false, if_false, or_self, Bool.true_eq_false]
    rw [ih]
    simp
/-- What Parts writes is read back. -/
theorem parts_back {bd md body : List UInt8} {t : List Sp} (hb : bndR bd = true) (hm : isFld md = true) (hz : (body.length : Int) ≤ 4611686018427387904) (hs : ∀ x ∈ t, isSp x body.length = true) (ht : t ≠ []) :
    pcsR bd (prtsB bd md body t ++ clB bd) = (t.map (pcOf md body), 0, 0) := by
  rw [← dps_like]
  unfold dpsR
  rw [if_pos hb]
  have hpl : ∀ t : List Sp, t.length ≤ (prtsB bd md body t).length := fun t => by
    induction t with
    | nil => simp
    | cons x t ih =>
      show _ ≤ (partB bd md body x ++ prtsB bd md body t).length
      rw [List.length_append, List.length_cons]
      have : 1 ≤ (partB bd md body x).length := by unfold partB opB; simp
      omega
  have := go_back (bd := bd) hm hz (prtsB bd md body t ++ clB bd) t [] [] ((prtsB bd md body t ++ clB bd).length + 1) rfl hs (.inr ht) (by rw [List.length_append]; have := hpl t; omega)
  simpa using this
theorem norm_two : ∀ {m : List Sp}, Norm m → ∀ x ∈ m, ∀ z ∈ m, x = z ∨ x.2 < z.1 ∨ z.2 < x.1
  | [], _, x, hx, _, _ => by simp at hx
  | y :: m, h, x, hx, z, hz => by
    obtain ⟨_, h2, h3⟩ := h
    rcases List.mem_cons.1 hx with e1 | hx1
    · rcases List.mem_cons.1 hz with e2 | hz1
      · exact .inl (e1.trans e2.symm)
      · exact .inr (.inl (by rw [e1]; exact h2 z hz1))
    · rcases List.mem_cons.1 hz with e2 | hz1
      · exact .inr (.inr (by rw [e2]; exact h2 x hx1))
      · exact norm_two h3 x hx1 z hz1
/-- What was asked for lies in one of what was merged. -/
theorem mrg_in {t m : List Sp} (h : MrgOf t m) {y : Sp} (hy : y ∈ t) (hp : y.1 < y.2) : ∃ x ∈ m, x.1 ≤ y.1 ∧ y.2 ≤ x.2 := by
  obtain ⟨hn, hi, _⟩ := h
  have cov : ∀ p, y.1 ≤ p → p < y.2 → ∃ x ∈ m, x.1 ≤ p ∧ p < x.2 := fun p h1 h2 => inN_t.1 (by rw [hi]; exact inN_t.2 ⟨y, hy, h1, h2⟩)
  obtain ⟨x, hx, h1, h2⟩ := cov y.1 (Int.le_refl _) hp
  refine ⟨x, hx, h1, ?_⟩
  refine Classical.byContradiction fun hc => ?_
  obtain ⟨z, hz, h3, h4⟩ := cov x.2 (by omega) (by omega)
  rcases norm_two hn x hx z hz with rfl | h5 | h5 <;> omega
theorem mrg_sp {t m : List Sp} {size : Int} (h : MrgOf t m) (ht : ∀ x ∈ t, isSp x size = true) : ∀ x ∈ m, isSp x size = true := by
  obtain ⟨hn, hi, _⟩ := h
  intro x hx
  have hp := Norm.pos hn x hx
  obtain ⟨y, hy, h1, h2⟩ := inN_t.1 ((hi x.1).symm.trans (inN_t.2 ⟨x, hx, Int.le_refl _, hp⟩))
  obtain ⟨z, hz, h3, h4⟩ := inN_t.1 ((hi (x.2 - 1)).symm.trans (inN_t.2 ⟨x, hx, by omega, by omega⟩))
  have a : 0 ≤ y.1 ∧ y.1 < y.2 ∧ y.2 ≤ size := of_decide_eq_true (ht y hy)
  have b : 0 ≤ z.1 ∧ z.1 < z.2 ∧ z.2 ≤ size := of_decide_eq_true (ht z hz)
  exact decide_eq_true (by omega)
theorem mrg_ne {t m : List Sp} {size : Int} (h : MrgOf t m) (ht : ∀ x ∈ t, isSp x size = true) (hne : t ≠ []) : m ≠ [] := by
  obtain ⟨y, hy⟩ := List.exists_mem_of_ne_nil t hne
  have a : 0 ≤ y.1 ∧ y.1 < y.2 ∧ y.2 ≤ size := of_decide_eq_true (ht y hy)
  obtain ⟨x, hx, _⟩ := mrg_in h hy a.2.1
  exact List.ne_nil_of_mem hx

end Sn
end Go.Proofs.YthdfgepnadgkjaaGreatDoor
