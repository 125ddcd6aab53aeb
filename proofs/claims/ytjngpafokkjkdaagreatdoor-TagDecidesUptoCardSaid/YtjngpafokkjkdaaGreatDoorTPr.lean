/-
  tag: the document's Parse; Print, and the document's.
-/
import Derived.Test.YtjngpafokkjkdaaGreatDoorTPq
set_option linter.unusedVariables false
set_option linter.unusedSimpArgs false
namespace Go.Proofs.YtjngpafokkjkdaaGreatDoor
open Go.RowKit
namespace Tt
open Oc

/-- May it be a tag's text? -/
def okT (l : List UInt8) : Bool := l.all inT && decide (l.length ≤ 256)
def printT (t : Tg1) : List UInt8 × Int := if okT t.2 = true then ((if t.1 = true then [87, 47] else []) ++ 34 :: (t.2 ++ [34]), 0) else ([], 80)
theorem body_print : ∀ (l : List UInt8) (k : Nat), bodyR (l ++ [34]) k = (k + l.length, true) ↔ l.all inT = true ∧ (l = [] ∨ k + l.length ≤ 256)
  | [], k => by simp [bodyR]
  | c :: r, k => by
    have ih := body_print r (k + 1)
    rw [List.cons_append]
    unfold bodyR
    by_cases h1 : c = 34
    · subst h1
      rw [if_pos rfl]
      have : inT 34 = false := by decide
      simp [this]
    · rw [if_neg h1]
      by_cases h2 : inT c = true ∧ k < 256
      · rw [if_pos h2, show k + (c :: r).length = k + 1 + r.length by simp; omega, ih]
        simp only [List.all_cons, h2.1, Bool.true_and, List.length_cons, reduceCtorEq, false_or]
        constructor
        · rintro ⟨a, b⟩
          refine ⟨a, ?_⟩
          rcases b with rfl | b
          · simp; omega
          · omega
        · rintro ⟨a, b⟩
          exact ⟨a, .inr (by omega)⟩
      · rw [if_neg h2]
        simp only [Prod.mk.injEq, reduceCtorEq, and_false, List.all_cons, List.length_cons, false_or, false_iff, not_and, Bool.and_eq_true, Nat.not_le]
        rintro ⟨a, b⟩
        have : ¬ k < 256 := fun h => h2 ⟨a, h⟩
        omega
theorem rest_print (w : Bool) (off : Nat) (l : List UInt8) : ((restR w off (l ++ [34])).2.2 = true ∧ (restR w off (l ++ [34])).2.1 = off + l.length + 1) ↔ okT l = true := by
  have h := body_print l 0
  unfold okT
  rw [Nat.zero_add] at h
  have h2 : bodyR (l ++ [34]) 0 = (l.length, true) ↔ (l.all inT && decide (l.length ≤ 256)) = true := by
    rw [h, Bool.and_eq_true, decide_eq_true_iff]
    constructor
    · rintro ⟨a, b⟩
      refine ⟨a, ?_⟩
      rcases b with rfl | b
      · simp
      · omega
    · rintro ⟨a, b⟩
      exact ⟨a, .inr (by omega)⟩
  rw [← h2]
  unfold restR
  by_cases hb : (bodyR (l ++ [34]) 0).2 = true
  · rw [if_pos hb]
    constructor
    · rintro ⟨_, a⟩
      refine Prod.ext ?_ hb
      show _ = l.length
      simp at a
      omega
    · intro e
      rw [e]
      exact ⟨rfl, rfl⟩
  · rw [if_neg hb]
    constructor
    · rintro ⟨a, _⟩
      simp at a
    · intro e
      rw [e] at hb
      simp at hb
theorem rest_text (w : Bool) (off : Nat) (l : List UInt8) (h : okT l = true) : restR w off (l ++ [34]) = ((w, l), off + l.length + 1, true) := by
  have h' := (rest_print w off l).2 h
  unfold restR at h' ⊢
  by_cases hb : (bodyR (l ++ [34]) 0).2 = true
  · rw [if_pos hb] at h' ⊢
    have e : (bodyR (l ++ [34]) 0).1 = l.length := by have := h'.2; simp at this; omega
    rw [e]
    simp
  · rw [if_neg hb] at h'
    simp at h'
theorem parse_quoted (l : List UInt8) : (parseT (34 :: (l ++ [34]))).2.2 = if okT l = true then 0 else 80 := by
  unfold parseT
  have e : frontR (34 :: (l ++ [34])) = restR false 1 (l ++ [34]) := by simp [frontR]
  rw [e]
  have h := rest_print false 1 l
  rw [show (34 :: (l ++ [34])).length = 1 + l.length + 1 by simp; omega]
  by_cases ho : okT l = true
  · rw [if_pos (h.2 ho), if_pos ho]
  · rw [if_neg (fun x => ho (h.1 x)), if_neg ho]
theorem parse_printed (t : Tg1) (h : okT t.2 = true) : parseT (printT t).1 = (t, 0, 0) := by
  obtain ⟨w, l⟩ := t
  unfold printT
  rw [if_pos h]
  dsimp only at h ⊢
  cases w with
  | true =>
    rw [show (if true = true then [87, 47] else ([] : List UInt8)) = [87, 47] from rfl]
    unfold parseT
    have e : frontR ([87, 47] ++ 34 :: (l ++ [34])) = restR true 3 (l ++ [34]) := by simp [frontR]
    rw [e, rest_text true 3 l h]
    rw [if_pos ⟨rfl, by simp; omega⟩]
  | false =>
    rw [show (if false = true then [87, 47] else ([] : List UInt8)) = [] from rfl]
    unfold parseT
    have e : frontR ([] ++ 34 :: (l ++ [34])) = restR false 1 (l ++ [34]) := by simp [frontR]
    rw [e, rest_text false 1 l h]
    rw [if_pos ⟨rfl, by simp; omega⟩]

set_option maxRecDepth 100000 in
set_option maxHeartbeats 1000000 in
theorem rParse_any (s : ByteArray) (hs : s.size ≤ 4000000000) (w : World) :
    Calls Tryz.prog 23 #[.string s] w fun e w' => e = .returned (.tuple #[.agg #[.bool (parseT s.data.toList).1.1, .string (str (parseT s.data.toList).1.2)], .int .i64 ((parseT s.data.toList).2.1 : Nat), .int .i64 (parseT s.data.toList).2.2]) ∧ Below w.heap.size w w' := by
  obtain ⟨w1, hw1⟩ : ∃ w1, w1 = w.alloc (.cells #[.bool false, .string ⟨#[]⟩] 36) := ⟨_, rfl⟩
  have z1 : w1.heap.size = w.heap.size + 1 := by rw [hw1]; simp
  have HA : Hid (TB 36 w1 w.heap.size (false, [])) := (by rw [hw1]; exact heap_alloc_new w _ : TB _ _ _ _)
  have HB : Hid (Below w.heap.size w w1) := (by rw [hw1]; exact (Below.refl _ w).alloc (Nat.le_refl _) _ : Below _ _ _)
  have HF : Hid (Calls Tryz.prog 40 #[.string s, .int .i64 0] w1 fun e w' => e = .returned (.tuple #[.agg #[.bool (frontR s.data.toList).1.1, .string (str (frontR s.data.toList).1.2)], .int .i64 ((frontR s.data.toList).2.1 : Nat), .bool (frontR s.data.toList).2.2]) ∧ Below w1.heap.size w1 w') := by
    have h := rread_any s hs 0 (by omega) w1
    rw [List.drop_zero, Nat.zero_add] at h
    exact h
  have hle := frontR_le s.data.toList
  rw [size_list] at hle
  unfold parseT
  rw [size_list]
  generalize frontR s.data.toList = F at *
  obtain ⟨⟨tw, tl⟩, n, ok⟩ := F
  dsimp only at *
  cases ok with
  | true =>
    by_cases hn : n = s.size
    · rw [if_pos ⟨rfl, hn⟩]
      subst hn
      dsimp only
      generalize str tl = S at *
      go_enter Tryz.func23, Tryz.ntmps23
      go_wp2_with fail
      rw [← hw1]
      refine HF.out.mono ?_
      rintro e w3 ⟨rfl, hb3⟩
      have ha := HA.out.below hb3
      have a0 := ha.c0
      have a1 := ha.c1
      have g0 := ha.f 0
      have g1 := ha.f 1
      have hlt := ha.lt
      have hne1 : w3.heap.size ≠ w.heap.size := by omega
      have hne2 : w.heap.size ≠ w3.heap.size := by omega
      have HB3 : Hid (Below w.heap.size w w3) := HB.out.trans (hb3.mono (by omega))
      have hrd : Hid (∀ b S o, _ ∧ _) := fun b S o => ha.read b S o
      clear ha hb3
      go_wp2
      refine bodyPost_ret (v := .tuple #[.agg #[.bool tw, .string S], .int .i64 0, .int .i64 0]) (by simp [results, Tryz.results23, go_sem, hrd.out]) rfl ?_
      refine ⟨rfl, ?_⟩
      repeat (first | exact HB3.out | refine Below.setCell ?_ (by simp) _ | refine Below.alloc ?_ (by simp; have := HB3.out.size; omega) _)
    · rw [if_neg (fun h => hn h.2)]
      dsimp only
      have hlt2 : n < s.size := by omega
      generalize str tl = S at *
      go_enter Tryz.func23, Tryz.ntmps23
      go_wp2_with fail
      rw [← hw1]
      refine HF.out.mono ?_
      rintro e w3 ⟨rfl, hb3⟩
      have ha := HA.out.below hb3
      have a0 := ha.c0
      have a1 := ha.c1
      have g0 := ha.f 0
      have g1 := ha.f 1
      have hlt := ha.lt
      have hne1 : w3.heap.size ≠ w.heap.size := by omega
      have hne2 : w.heap.size ≠ w3.heap.size := by omega
      have HB3 : Hid (Below w.heap.size w w3) := HB.out.trans (hb3.mono (by omega))
      have hrd : Hid (∀ b S o, _ ∧ _) := fun b S o => ha.read b S o
      clear ha hb3
      go_wp2
      refine bodyPost_ret (v := .tuple #[.agg #[.bool false, .string ⟨#[]⟩], .int .i64 n, .int .i64 80]) (by simp [results, Tryz.results23, go_sem, hrd.out]) rfl ?_
      refine ⟨rfl, ?_⟩
      repeat (first | exact HB3.out | refine Below.setCell ?_ (by simp) _ | refine Below.alloc ?_ (by simp; have := HB3.out.size; omega) _)
  | false =>
    rw [if_neg (fun h => by simp at h)]
    dsimp only
    generalize str tl = S at *
    go_enter Tryz.func23, Tryz.ntmps23
    go_wp2_with fail
    rw [← hw1]
    refine HF.out.mono ?_
    rintro e w3 ⟨rfl, hb3⟩
    have ha := HA.out.below hb3
    have a0 := ha.c0
    have a1 := ha.c1
    have g0 := ha.f 0
    have g1 := ha.f 1
    have hlt := ha.lt
    have hne1 : w3.heap.size ≠ w.heap.size := by omega
    have hne2 : w.heap.size ≠ w3.heap.size := by omega
    have HB3 : Hid (Below w.heap.size w w3) := HB.out.trans (hb3.mono (by omega))
    have hrd : Hid (∀ b S o, _ ∧ _) := fun b S o => ha.read b S o
    clear ha hb3
    go_wp2
    refine bodyPost_ret (v := .tuple #[.agg #[.bool false, .string ⟨#[]⟩], .int .i64 n, .int .i64 80]) (by simp [results, Tryz.results23, go_sem, hrd.out]) rfl ?_
    refine ⟨rfl, ?_⟩
    repeat (first | exact HB3.out | refine Below.setCell ?_ (by simp) _ | refine Below.alloc ?_ (by simp; have := HB3.out.size; omega) _)

theorem quoted_list (x : ByteArray) : (⟨#[34]⟩ ++ x ++ ⟨#[34]⟩ : ByteArray).data.toList = 34 :: (x.data.toList ++ [34]) := by
  simp [ByteArray.data_append]
theorem str_of {a : ByteArray} {l : List UInt8} (h : a.data.toList = l) : str l = a := by rw [← h, str_self]

end Tt
end Go.Proofs.YtjngpafokkjkdaaGreatDoor
