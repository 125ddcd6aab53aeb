/-
  tag: the document's Parse; Print, and the document's.
-/
import Derived.Test.YtheeloaebilgiabGreatDoorTPq
set_option linter.unusedVariables false
set_option linter.unusedSimpArgs false
namespace Go.Proofs.YtheeloaebilgiabGreatDoor
open Go.RowKit
namespace Tt
open Oc

/-- May it be a tag's text? -/
def okT (l : List UInt8) : Bool := l.all inT && decide (l.length ≤ 256)
def printT (t : Tg1) : List UInt8 × Int := if okT t.2 = true then ((if t.1 = true then [87, 47] else []) ++ 34 :: (t.2 ++ [34]), 0) else ([], 80)
theorem body_print : ∀ (l : List UInt8) (k : Nat), bodyR (l ++ [34]) k = (k + l.length, true) ↔ l.all inT = true ∧ (l = [] ∨ k + l.length ≤ 256)
  | [], k => by simp [bodyR]
  | c :: r, k => by
    have ih := body_print r (k + 1)
    rw [List.cons_append]
    unfold bodyR
    by_cases h1 : c = 34
    · subst h1
      rw [if_pos rfl]
      have : inT 34 = false := by decide
      simp [this]
    · rw [if_neg h1]
      by_cases h2 : inT c = true ∧ k < 256
      · rw [if_pos h2, show k + (c :: r).length = k + 1 + r.length by simp; omega, ih]
        simp only [List.all_cons, h2.1, Bool.true_and, List.length_cons, reduceCtorEq, false_or]
        constructor
        · rintro ⟨a, b⟩
          refine ⟨a, ?_⟩
          rcases b with rfl | b
          · simp; omega
          · omega
        · rintro ⟨a, b⟩
          exact ⟨a, .inr (by omega)⟩
      · rw [if_neg h2]
        simp only [Prod.mk.injEq, reduceCtorEq, and_false, List.all_cons, List.length_cons, false_or, false_iff, not_and, Bool.and_eq_true, Nat.not_le]
        rintro ⟨a, b⟩
        have : ¬ k < 256 := fun h => h2 ⟨a, h⟩
        omega
theorem rest_print (w : Bool) (off : Nat) (l : List UInt8) : ((restR w off (l ++ [34])).2.2 = true ∧ (restR w off (l ++ [34])).2.1 = off + l.length + 1) ↔ okT l = true := by
  have h := body_print l 0
  unfold okT
  rw [Nat.zero_add] at h
  have h2 : bodyR (l ++ [34]) 0 = (l.length, true) ↔ (l.all inT && decide (l.length ≤ 256)) = true := by
    rw [h, Bool.and_eq_true, decide_eq_true_iff]
    constructor
    · rintro ⟨a, b⟩
      refine ⟨a, ?_⟩
      rcases b with rfl | b
      · simp
      · omega
    · rintro ⟨a, b⟩
      exact ⟨a, .inr (by omega)⟩
  rw [← h2]
  unfold restR
  by_cases hb : (bodyR (l ++ [34]) 0).2 = true
  · rw [if_pos hb]
    constructor
    · rintro ⟨_, a⟩
      refine Prod.ext ?_ hb
      show _ = l.length
      simp at a
      omega
    · intro e
      rw [e]
      exact ⟨rfl, rfl⟩
  · rw [if_neg hb]
    constructor
    · rintro ⟨a, _⟩
      simp at a
    · intro e
      rw [e] at hb
      simp at hb
theorem rest_text (w : Bool) (off : Nat) (l : List UInt8) (h : okT l = true) : restR w off (l ++ [34]) = ((w, l), off + l.length + 1, true) := by
  have h' := (rest_print w off l).2 h
  unfold restR at h' ⊢
  by_cases hb : (bodyR (l ++ [34]) 0).2 = true
  · rw [if_pos hb] at h' ⊢
    have e : (bodyR (l ++ [34]) 0).1 = l.length := by have := h'.2; simp at this; omega
    rw [e]
    simp
  · rw [if_neg hb] at h'
    simp at h'
theorem parse_quoted (l : List UInt8) : (parseT (34 :: (l ++ [34]))).2.2 = if okT l = true then 0 else 80 := by
  unfold parseT
  have e : frontR (34 :: (l ++ [34])) = restR false 1 (l ++ [34]) := by simp [frontR]
  rw [e]
  have h := rest_print false 1 l
  rw [show (34 :: (l ++ [34])).length = 1 + l.length + 1 by simp; omega]
  by_cases ho : okT l = true
  · rw [if_pos (h.2 ho), if_pos ho]
  · rw [if_neg (fun x => ho (h.1 x)), if_neg ho]
theorem parse_printed (t : Tg1) (h : okT t.2 = true) : parseT (printT t).1 = (t, 0, 0) := by
  obtain ⟨w, l⟩ := t
  unfold printT
  rw [if_pos h]
  dsimp only at h ⊢
  cases w with
  | true =>
    rw [show (if true = true then [87, 47] else ([] : List UInt8)) = [87, 47] from rfl]
    unfold parseT
    have e : frontR ([87, 47] ++ 34 :: (l ++ [34])) = restR true 3 (l ++ [34]) := by simp [frontR]
    rw [e, rest_text true 3 l h]
    rw [if_pos ⟨rfl, by simp; omega⟩]
  | false =>
    rw [show (if false = true then [87, 47] else ([] : List UInt8)) = [] from rfl]
    unfold parseT
    have e : frontR ([] ++ 34 :: (l ++ [34])) = restR false 1 (l ++ [34]) := by simp [frontR]
    rw [e, rest_text false 1 l h]
    rw [if_pos ⟨rfl, by simp; omega⟩]

theorem quoted_list (x : ByteArray) : (⟨#[34]⟩ ++ x ++ ⟨#[34]⟩ : ByteArray).data.toList = 34 :: (x.data.toList ++ [34]) := by
  simp [ByteArray.data_append]
theorem str_of {a : ByteArray} {l : List UInt8} (h : a.data.toList = l) : str l = a := by rw [← h, str_self]

set_option maxRecDepth 100000 in
set_option maxHeartbeats 1000000 in
theorem Print_any (tw : Bool) (x : ByteArray) (hs : x.size ≤ 3000000000) (w : World) :
    Calls Tryz.prog 7 #[.agg #[.bool tw, .string x]] w fun e w' => e = .returned (.tuple #[.string (str (printT (tw, x.data.toList)).1), .int .i64 (printT (tw, x.data.toList)).2]) ∧ Below w.heap.size w w' := by
  obtain ⟨w1, hw1⟩ : ∃ w1, w1 = w.alloc (.cells #[.bool tw, .string x] 27) := ⟨_, rfl⟩
  have z1 : w1.heap.size = w.heap.size + 1 := by rw [hw1]; simp
  have HA : Hid (TB 27 w1 w.heap.size (tw, x.data.toList)) := (by rw [hw1]; exact TB.new _ w tw x : TB _ _ _ _)
  have HB : Hid (Below w.heap.size w w1) := (by rw [hw1]; exact (Below.refl _ w).alloc (Nat.le_refl _) _ : Below _ _ _)
  have HP : Hid (∃ (a : Value) (n : Nat), Calls Tryz.prog 8 #[.string (⟨#[34]⟩ ++ x ++ ⟨#[34]⟩)] w1 fun e w' => e = .returned (.tuple #[.agg #[.bool (parseT (34 :: (x.data.toList ++ [34]))).1.1, .string (str (parseT (34 :: (x.data.toList ++ [34]))).1.2)], .int .i64 ((parseT (34 :: (x.data.toList ++ [34]))).2.1 : Nat), .int .i64 (if okT x.data.toList = true then 0 else 80)]) ∧ Below w1.heap.size w1 w') := ⟨.bool true, 0, by
    have h := Parse_any (⟨#[34]⟩ ++ x ++ ⟨#[34]⟩) (by rw [ByteArray.size_append, ByteArray.size_append]; have h1 : (⟨#[34]⟩ : ByteArray).size = 1 := rfl; omega) w1
    rw [quoted_list, parse_quoted] at h
    exact h⟩
  obtain ⟨_, _, HP⟩ := HP.out
  generalize str (parseT (34 :: (x.data.toList ++ [34]))).1.2 = q1 at HP
  generalize (parseT (34 :: (x.data.toList ++ [34]))).1.1 = q2 at HP
  generalize (parseT (34 :: (x.data.toList ++ [34]))).2.1 = q3 at HP
  unfold printT
  have HE : Hid (str ([87, 47] ++ 34 :: (x.data.toList ++ [34])) = ⟨#[87, 47]⟩ ++ (⟨#[34]⟩ ++ x ++ ⟨#[34]⟩)) := str_of (by rw [ByteArray.data_append, Array.toList_append, quoted_list])
  have HE2 : Hid (str ([] ++ 34 :: (x.data.toList ++ [34])) = (⟨#[34]⟩ ++ x ++ ⟨#[34]⟩)) := str_of (by rw [quoted_list]; rfl)
  by_cases ho : okT x.data.toList = true
  · rw [if_pos ho]
    rw [if_pos ho] at HP
    have HPP : Hid (Calls _ _ _ _ _) := HP
    clear HP
    cases tw with
    | true =>
      rw [if_pos rfl]
      dsimp only
      rw [HE.out]
      go_enter Tryz.func7, Tryz.ntmps7
      go_wp2_with fail
      rw [← hw1]
      refine HPP.out.mono ?_
      rintro e w3 ⟨rfl, hb3⟩
      have ha := HA.out.below hb3
      have a0 := ha.c0
      have hlt := ha.lt
      have HB3 : Hid (Below w.heap.size w w3) := HB.out.trans (hb3.mono (by omega))
      clear ha hb3
      go_wp2
      go_ret2
      exact ⟨rfl, HB3.out.alloc HB3.out.size _⟩
    | false =>
      rw [if_neg (by simp)]
      dsimp only
      rw [HE2.out]
      go_enter Tryz.func7, Tryz.ntmps7
      go_wp2_with fail
      rw [← hw1]
      refine HPP.out.mono ?_
      rintro e w3 ⟨rfl, hb3⟩
      have ha := HA.out.below hb3
      have a0 := ha.c0
      have hlt := ha.lt
      have HB3 : Hid (Below w.heap.size w w3) := HB.out.trans (hb3.mono (by omega))
      clear ha hb3
      go_wp2
      go_ret2
      exact ⟨rfl, HB3.out.alloc HB3.out.size _⟩
  · rw [if_neg ho]
    rw [if_neg ho] at HP
    have HPP : Hid (Calls _ _ _ _ _) := HP
    clear HP
    go_enter Tryz.func7, Tryz.ntmps7
    go_wp2_with fail
    rw [← hw1]
    refine HPP.out.mono ?_
    rintro e w3 ⟨rfl, hb3⟩
    have HB3 : Hid (Below w.heap.size w w3) := HB.out.trans (hb3.mono (by omega))
    clear hb3
    go_wp2
    go_ret2
    exact ⟨rfl, HB3.out.alloc HB3.out.size _⟩

set_option maxRecDepth 100000 in
set_option maxHeartbeats 1000000 in
theorem rPrint_any (tw : Bool) (x : ByteArray) (hs : x.size ≤ 3000000000) (w : World) :
    Calls Tryz.prog 14 #[.agg #[.bool tw, .string x]] w fun e w' => e = .returned (.tuple #[.string (str (printT (tw, x.data.toList)).1), .int .i64 (printT (tw, x.data.toList)).2]) ∧ Below w.heap.size w w' := by
  obtain ⟨w1, hw1⟩ : ∃ w1, w1 = w.alloc (.cells #[.bool tw, .string x] 35) := ⟨_, rfl⟩
  have HA : Hid (TB 35 w1 w.heap.size (tw, x.data.toList)) := (by rw [hw1]; exact TB.new _ w tw x : TB _ _ _ _)
  have HB : Hid (Below w.heap.size w w1) := (by rw [hw1]; exact (Below.refl _ w).alloc (Nat.le_refl _) _ : Below _ _ _)
  have hlen : x.data.toList.length = x.size := size_list x
  have HE : Hid (str ([87, 47] ++ 34 :: (x.data.toList ++ [34])) = ⟨#[87, 47, 34]⟩ ++ x ++ ⟨#[34]⟩) := str_of (by simp [ByteArray.data_append])
  have HE2 : Hid (str ([] ++ 34 :: (x.data.toList ++ [34])) = (⟨#[34]⟩ ++ x ++ ⟨#[34]⟩)) := str_of (by rw [quoted_list]; rfl)
  have a0 := HA.out.c0
  have a1 := HA.out.c1
  dsimp only at a0 a1
  rw [str_self] at a1
  go_enter Tryz.func14, Tryz.ntmps14
  go_wp2
  rw [← hw1]
  go_loop [4] (fun i => ∃ k : Nat, k ≤ x.size ∧ i = .int .i64 k ∧ Hid (∀ j, j < k → inT (x.data.toList.getD j 0) = true)) (fun i => x.size - (intOf i).toNat)
  case atStart => exact ⟨0, Nat.zero_le _, rfl, (fun j hj => by omega : ∀ j, j < 0 → _)⟩
  case round =>
    obtain ⟨k, hk, rfl, hall⟩ := hrel
    clear hw1
    by_cases hlt : k < x.size
    · have hby : ((x[k].toNat : Nat) : Int) = ((x.data.toList.getD k 0).toNat : Int) := byt_at x k hlt
      have hcb := (x.data.toList.getD k 0).toNat_lt
      have HIT : Hid (inT (x.data.toList.getD k 0) = inI ((x.data.toList.getD k 0).toNat : Int)) := inT_int _
      generalize hci : ((x.data.toList.getD k 0).toNat : Int) = ci at hby HIT
      have h0 : 0 ≤ ci := by omega
      have h1 : ci ≤ 255 := by omega
      clear hci hcb
      cases hin : inI ci with
      | true =>
        have HN : Hid (∀ j, j < k + 1 → inT (x.data.toList.getD j 0) = true) := by
          intro j hj
          by_cases hjk : j = k
          · subst hjk; exact HIT.out.trans hin
          · exact hall.out j (by omega)
        clear HIT
        go_wp2_with (go_at_call 23; refine (rinside_any _ (by omega) (by omega) _).mono ?_; rintro e w' ⟨rfl, rfl⟩)
        go_round
        case rel => exact ⟨k + 1, by omega, by go_num, HN⟩
        case measure => simp [intOf]; omega
      | false =>
        have HF : Hid (printT (tw, x.data.toList) = ([], 80)) := by
          show _ = _
          unfold printT
          rw [if_neg]
          show ¬ okT x.data.toList = true
          unfold okT
          rw [all_not inT 0 _ k (by rw [size_list]; exact hlt) (HIT.out.trans hin)]
          simp
        clear HIT
        go_wp2_with (go_at_call 23; refine (rinside_any _ (by omega) (by omega) _).mono ?_; rintro e w' ⟨rfl, rfl⟩)
        go_ret2
        rw [HF.out]
        exact ⟨rfl, HB.out⟩
    · have hall2 : x.data.toList.all inT = true := all_of inT 0 _ (fun j hj => hall.out j (by rw [size_list] at hj; omega))
      have HO : Hid (okT x.data.toList = decide (x.size ≤ 256)) := by
        show _ = _
        unfold okT
        rw [hall2, hlen]
        simp
      clear hall2 hall
      by_cases h256 : x.size ≤ 256
      · have ho : okT x.data.toList = true := by rw [HO.out]; simpa using h256
        cases tw with
        | true =>
          have HF : Hid (printT (true, x.data.toList) = ([87, 47] ++ 34 :: (x.data.toList ++ [34]), 0)) := by
            show _ = _
            unfold printT
            rw [if_pos ho]
            rfl
          clear ho HO
          go_wp2
          go_ret2
          rw [HF.out]
          dsimp only
          rw [HE.out]
          exact ⟨rfl, HB.out⟩
        | false =>
          have HF : Hid (printT (false, x.data.toList) = ([] ++ 34 :: (x.data.toList ++ [34]), 0)) := by
            show _ = _
            unfold printT
            rw [if_pos ho]
            rfl
          clear ho HO
          go_wp2
          go_ret2
          rw [HF.out]
          dsimp only
          rw [HE2.out]
          exact ⟨rfl, HB.out⟩
      · have HF : Hid (printT (tw, x.data.toList) = ([], 80)) := by
          show _ = _
          unfold printT
          rw [if_neg]
          show ¬ okT x.data.toList = true
          rw [HO.out]
          simpa using h256
        clear HO
        go_wp2
        go_ret2
        rw [HF.out]
        exact ⟨rfl, HB.out⟩

end Tt
end Go.Proofs.YtheeloaebilgiabGreatDoor
