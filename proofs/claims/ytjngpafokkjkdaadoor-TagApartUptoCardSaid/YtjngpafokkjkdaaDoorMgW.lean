/- Several texts as one. -/
import Derived.Test.YtjngpafokkjkdaaDoorMgV
import Derived.Test.YtjngpafokkjkdaaDoorTDh
import Derived.Test.YtjngpafokkjkdaaDoorMgJ
import Derived.Test.YtjngpafokkjkdaaDoorMgE
import Derived.Deep.RegionHeld3
import Derived.Deep.RegionLaw
/-
  tag: the date of a name, whatever there is; the steps by dates; Decide of anything.
-/
set_option linter.unusedVariables false
set_option linter.unusedSimpArgs false
namespace Go.Proofs.YtjngpafokkjkdaaDoor
open Go.RowKit Go.Shelf
namespace Tt
open Oc Tg

/-- The date of a name, and whether it can be held against the state's time. -/
def dateV (n : List UInt8) (fs : List Fd.Fl) (s : St) (now : Int) : Int × Bool :=
  if (Fd.vals n fs).length = 1 ∧ s.th = true ∧ s.td = true then ((Bs.parseS ((Fd.vals n fs).getD 0 []) now).1, (Bs.parseS ((Fd.vals n fs).getD 0 []) now).2.2.1 == 0) else (0, false)
theorem date_any (n : List UInt8) (hn : n.length ≤ 100) {g : Nat} {m : List UInt8} {fv : Value} {fs : List Fd.Fl} {s : St} {now : Int} {w : World} (h : Ask w g m fv fs s now) (hnow : Bs.I64 now) (tb : Bs.Tb w) :
    Calls Tryd.prog 20 #[.pointer (some ⟨g, 0, none⟩), .string (str n)] w fun e w' => e = .returned (.tuple #[.int .i64 (dateV n fs s now).1, .bool (dateV n fs s now).2]) ∧ Below w.heap.size w w' := by
  unfold dateV
  by_cases hc : (Fd.vals n fs).length = 1 ∧ s.th = true ∧ s.td = true
  · rw [if_pos hc]
    obtain ⟨v, hv⟩ := List.length_eq_one_iff.1 hc.1
    have hd := date_yes n hn h v hv hc.2.1 hc.2.2 hnow tb
    rw [hv]
    exact hd
  · rw [if_neg hc]
    refine date_no n hn h ?_
    by_cases h1 : (Fd.vals n fs).length = 1
    · by_cases h2 : s.th = true
      · have h3 : ¬ s.td = true := fun h3 => hc ⟨h1, h2, h3⟩
        exact .inr (.inr (by simpa using h3))
      · exact .inr (.inl (by simpa using h2))
    · exact .inl h1
def unmodV (fs : List Fd.Fl) (s : St) (now : Int) : Int := if ((dateV sUnmod fs s now).2 && (!hasF sMatch fs && decide ((dateV sUnmod fs s now).1 < s.tm))) = true then 412 else 0
def modV (m : List UInt8) (fs : List Fd.Fl) (s : St) (now : Int) : Int := if ((dateV sMod fs s now).2 && (!hasF sNone fs && (readsM m && decide (s.tm ≤ (dateV sMod fs s now).1)))) = true then 304 else 0

set_option maxRecDepth 100000 in
set_option maxHeartbeats 2000000 in
theorem unmodified_any {g : Nat} {m : List UInt8} {fv : Value} {fs : List Fd.Fl} {s : St} {now : Int} {w : World} (h : Ask w g m fv fs s now) (hnow : Bs.I64 now) (tb : Bs.Tb w) :
    Calls Tryd.prog 13 #[.pointer (some ⟨g, 0, none⟩)] w fun e w' => e = .returned (.int .i64 (unmodV fs s now)) ∧ Below w.heap.size w w' := by
  have HD : Hid (Calls Tryd.prog 20 #[.pointer (some ⟨g, 0, none⟩), .string ⟨#[73, 102, 45, 85, 110, 109, 111, 100, 105, 102, 105, 101, 100, 45, 83, 105, 110, 99, 101]⟩] w fun e w' => e = .returned (.tuple #[.int .i64 (dateV sUnmod fs s now).1, .bool (dateV sUnmod fs s now).2]) ∧ Below w.heap.size w w') := date_any sUnmod (by decide) h hnow tb
  have HH : Hid (∀ W, Below w.heap.size w W → Calls Tryd.prog 17 #[.pointer (some ⟨g, 0, none⟩), .string ⟨#[73, 102, 45, 77, 97, 116, 99, 104]⟩] W fun e w' => e = .returned (.bool (hasF sMatch fs)) ∧ Below W.heap.size W w') := fun W hb => has_any sMatch (by decide) (h.below hb)
  have HC : Hid (∀ W, Below w.heap.size w W → W.cell? ⟨g, 6, none⟩ = some (.int .i64 s.tm)) := fun W hb => (h.ab.below hb).c6
  unfold unmodV
  clear h tb
  generalize dateV sUnmod fs s now = D at *
  obtain ⟨d, ok⟩ := D
  dsimp only at *
  generalize hasF sMatch fs = hs at *
  generalize s.tm = tm at *
  cases ok with
  | false =>
    rw [Bool.false_and, if_neg (by simp)]
    go_enter Tryd.func13, Tryd.ntmps13
    go_wp2_with fail
    refine HD.out.mono ?_
    rintro e w2 ⟨rfl, hb2⟩
    go_wp2
    go_ret
    exact ⟨rfl, hb2⟩
  | true =>
    rw [Bool.true_and]
    cases hs with
    | true =>
      rw [Bool.not_true, Bool.false_and, if_neg (by simp)]
      go_enter Tryd.func13, Tryd.ntmps13
      go_wp2_with fail
      refine HD.out.mono ?_
      rintro e w2 ⟨rfl, hb2⟩
      have HB2 : Hid (Below w.heap.size w w2) := hb2
      clear hb2
      go_wp2_with fail
      refine (HH.out _ HB2.out).mono ?_
      rintro e w3 ⟨rfl, hb3⟩
      go_wp2
      go_ret
      exact ⟨rfl, bel_trans HB2.out hb3⟩
    | false =>
      rw [Bool.not_false, Bool.true_and]
      by_cases hd : d < tm
      · rw [if_pos (by simpa using hd)]
        go_enter Tryd.func13, Tryd.ntmps13
        go_wp2_with fail
        refine HD.out.mono ?_
        rintro e w2 ⟨rfl, hb2⟩
        have HB2 : Hid (Below w.heap.size w w2) := hb2
        clear hb2
        go_wp2_with fail
        refine (HH.out _ HB2.out).mono ?_
        rintro e w3 ⟨rfl, hb3⟩
        have HB3 : Hid (Below w.heap.size w w3) := bel_trans HB2.out hb3
        have k := HC.out _ HB3.out
        clear hb3
        go_wp2
        go_ret
        exact ⟨rfl, HB3.out⟩
      · rw [if_neg (by simpa using hd)]
        go_enter Tryd.func13, Tryd.ntmps13
        go_wp2_with fail
        refine HD.out.mono ?_
        rintro e w2 ⟨rfl, hb2⟩
        have HB2 : Hid (Below w.heap.size w w2) := hb2
        clear hb2
        go_wp2_with fail
        refine (HH.out _ HB2.out).mono ?_
        rintro e w3 ⟨rfl, hb3⟩
        have HB3 : Hid (Below w.heap.size w w3) := bel_trans HB2.out hb3
        have k := HC.out _ HB3.out
        clear hb3
        go_wp2
        go_ret
        exact ⟨rfl, HB3.out⟩

set_option maxRecDepth 100000 in
set_option maxHeartbeats 2000000 in
theorem modified_any {g : Nat} {m : List UInt8} {fv : Value} {fs : List Fd.Fl} {s : St} {now : Int} {w : World} (h : Ask w g m fv fs s now) (hnow : Bs.I64 now) (tb : Bs.Tb w) :
    Calls Tryd.prog 15 #[.pointer (some ⟨g, 0, none⟩)] w fun e w' => e = .returned (.int .i64 (modV m fs s now)) ∧ Below w.heap.size w w' := by
  have HD : Hid (Calls Tryd.prog 20 #[.pointer (some ⟨g, 0, none⟩), .string ⟨#[73, 102, 45, 77, 111, 100, 105, 102, 105, 101, 100, 45, 83, 105, 110, 99, 101]⟩] w fun e w' => e = .returned (.tuple #[.int .i64 (dateV sMod fs s now).1, .bool (dateV sMod fs s now).2]) ∧ Below w.heap.size w w') := date_any sMod (by decide) h hnow tb
  have HH : Hid (∀ W, Below w.heap.size w W → Calls Tryd.prog 17 #[.pointer (some ⟨g, 0, none⟩), .string ⟨#[73, 102, 45, 78, 111, 110, 101, 45, 77, 97, 116, 99, 104]⟩] W fun e w' => e = .returned (.bool (hasF sNone fs)) ∧ Below W.heap.size W w') := fun W hb => has_any sNone (by decide) (h.below hb)
  have HR : Hid (∀ W, Below w.heap.size w W → Calls Tryd.prog 22 #[.pointer (some ⟨g, 0, none⟩)] W fun e w' => e = .returned (.bool (readsM m)) ∧ Below W.heap.size W w') := fun W hb => reads_any (h.below hb)
  have HC : Hid (∀ W, Below w.heap.size w W → W.cell? ⟨g, 6, none⟩ = some (.int .i64 s.tm)) := fun W hb => (h.ab.below hb).c6
  unfold modV
  clear h tb
  generalize dateV sMod fs s now = D at *
  obtain ⟨d, ok⟩ := D
  dsimp only at *
  generalize hasF sNone fs = hs at *
  generalize readsM m = rd at *
  generalize s.tm = tm at *
  cases ok with
  | false =>
    rw [Bool.false_and, if_neg (by simp)]
    go_enter Tryd.func15, Tryd.ntmps15
    go_wp2_with fail
    refine HD.out.mono ?_
    rintro e w2 ⟨rfl, hb2⟩
    go_wp2
    go_ret
    exact ⟨rfl, hb2⟩
  | true =>
    rw [Bool.true_and]
    cases hs with
    | true =>
      rw [Bool.not_true, Bool.false_and, if_neg (by simp)]
      go_enter Tryd.func15, Tryd.ntmps15
      go_wp2_with fail
      refine HD.out.mono ?_
      rintro e w2 ⟨rfl, hb2⟩
      have HB2 : Hid (Below w.heap.size w w2) := hb2
      clear hb2
      go_wp2_with fail
      refine (HH.out _ HB2.out).mono ?_
      rintro e w3 ⟨rfl, hb3⟩
      go_wp2
      go_ret
      exact ⟨rfl, bel_trans HB2.out hb3⟩
    | false =>
      rw [Bool.not_false, Bool.true_and]
      cases rd with
      | false =>
        rw [Bool.false_and, if_neg (by simp)]
        go_enter Tryd.func15, Tryd.ntmps15
        go_wp2_with fail
        refine HD.out.mono ?_
        rintro e w2 ⟨rfl, hb2⟩
        have HB2 : Hid (Below w.heap.size w w2) := hb2
        clear hb2
        go_wp2_with fail
        refine (HH.out _ HB2.out).mono ?_
        rintro e w3 ⟨rfl, hb3⟩
        have HB3 : Hid (Below w.heap.size w w3) := bel_trans HB2.out hb3
        clear hb3
        go_wp2_with fail
        refine (HR.out _ HB3.out).mono ?_
        rintro e w4 ⟨rfl, hb4⟩
        go_wp2
        go_ret
        exact ⟨rfl, bel_trans HB3.out hb4⟩
      | true =>
        rw [Bool.true_and]
        by_cases hd : tm ≤ d
        · rw [if_pos (by simpa using hd)]
          go_enter Tryd.func15, Tryd.ntmps15
          go_wp2_with fail
          refine HD.out.mono ?_
          rintro e w2 ⟨rfl, hb2⟩
          have HB2 : Hid (Below w.heap.size w w2) := hb2
          clear hb2
          go_wp2_with fail
          refine (HH.out _ HB2.out).mono ?_
          rintro e w3 ⟨rfl, hb3⟩
          have HB3 : Hid (Below w.heap.size w w3) := bel_trans HB2.out hb3
          clear hb3
          go_wp2_with fail
          refine (HR.out _ HB3.out).mono ?_
          rintro e w4 ⟨rfl, hb4⟩
          have HB4 : Hid (Below w.heap.size w w4) := bel_trans HB3.out hb4
          have k := HC.out _ HB4.out
          clear hb4
          go_wp2
          go_ret
          exact ⟨rfl, HB4.out⟩
        · rw [if_neg (by simpa using hd)]
          go_enter Tryd.func15, Tryd.ntmps15
          go_wp2_with fail
          refine HD.out.mono ?_
          rintro e w2 ⟨rfl, hb2⟩
          have HB2 : Hid (Below w.heap.size w w2) := hb2
          clear hb2
          go_wp2_with fail
          refine (HH.out _ HB2.out).mono ?_
          rintro e w3 ⟨rfl, hb3⟩
          have HB3 : Hid (Below w.heap.size w w3) := bel_trans HB2.out hb3
          clear hb3
          go_wp2_with fail
          refine (HR.out _ HB3.out).mono ?_
          rintro e w4 ⟨rfl, hb4⟩
          have HB4 : Hid (Below w.heap.size w w4) := bel_trans HB3.out hb4
          have k := HC.out _ HB4.out
          clear hb4
          go_wp2
          go_ret
          exact ⟨rfl, HB4.out⟩

/-- What is decided. -/
def decideV (m : List UInt8) (fs : List Fd.Fl) (s : St) (now : Int) : Int := decideG (matchV fs s) (unmodV fs s now) (noneV m fs s) (modV m fs s now)
theorem Decide_any (m : List UInt8) (fv : Value) (fs : List Fd.Fl) (s : St) (now : Int) (w : World) (hrd : Fd.RdF fv fs w) (hsum : Fd.sumF fs ≤ 1048576) (hml : Fd.ML w) (hnow : Bs.I64 now) (tb : Bs.Tb w) :
    Calls Tryd.prog 5 #[.string (str m), fv, .agg #[.bool s.th, .bool s.own.1, .string (str s.own.2), .bool s.tg, .int .i64 s.tm, .bool s.td], .int .i64 now] w fun e w' => e = .returned (.int .i64 (decideV m fs s now)) ∧ Below w.heap.size w w' :=
  Decide_gen m fv fs s now _ _ w hrd hsum hml (fun g W hb h => unmodified_any h hnow (tb.bel hb)) (fun g W hb h => modified_any h hnow (tb.bel hb))

end Tt
end Go.Proofs.YtjngpafokkjkdaaDoor

/-
  Plain: other fields, and the case of names, have no part in what is decided.
-/
set_option linter.unusedVariables false
set_option linter.unusedSimpArgs false
set_option maxRecDepth 100000
namespace Go.Proofs.YtjngpafokkjkdaaDoor
namespace Tt
open Oc

def four : List (List UInt8) := [sMatch, sNone, sUnmod, sMod]
def mineB (n : List UInt8) : Bool := four.any fun s => decide (lower n = lower s)
def fewF (fs : List Fd.Fl) : List Fd.Fl := (fs.filter fun p => mineB p.1).map fun p => (lower p.1, p.2)

theorem lowB_idem (c : UInt8) : lowB (lowB c) = lowB c := by
  have h : ∀ n : Nat, n < 256 → lowB (lowB (UInt8.ofNat n)) = lowB (UInt8.ofNat n) := by decide +kernel
  have := h c.toNat c.toNat_lt
  rwa [UInt8.ofNat_toNat] at this
theorem lower_idem (l : List UInt8) : lower (lower l) = lower l := by
  unfold lower; rw [List.map_map]; exact List.map_congr_left fun c _ => lowB_idem c
theorem mine_of {s n : List UInt8} (hs : s ∈ four) (h : lower n = lower s) : mineB n = true := by
  unfold mineB
  rw [List.any_eq_true]
  exact ⟨s, hs, decide_eq_true h⟩
theorem vals_few (s : List UInt8) (hs : s ∈ four) (fs : List Fd.Fl) : Fd.vals s (fewF fs) = Fd.vals s fs := by
  unfold Fd.vals fewF
  induction fs with
  | nil => rfl
  | cons p t ih =>
    cases hm : mineB p.1 with
    | true =>
      rw [List.filter_cons_of_pos (by exact hm), List.map_cons]
      have e : Fd.alike s (lower p.1, p.2) = Fd.alike s p := by unfold Fd.alike; rw [lower_idem]
      cases ha : Fd.alike s p with
      | true =>
        rw [List.filter_cons_of_pos (by rw [e]; exact ha), List.filter_cons_of_pos (by exact ha), List.map_cons, List.map_cons, ih]
      | false =>
        rw [List.filter_cons_of_neg (by rw [e, ha]; decide), List.filter_cons_of_neg (by rw [ha]; decide), ih]
    | false =>
      have ha : Fd.alike s p = false := by
        cases ha : Fd.alike s p with
        | false => rfl
        | true =>
          have := mine_of hs (of_decide_eq_true ha)
          rw [hm] at this
          cases this
      rw [List.filter_cons_of_neg (by rw [hm]; decide), List.filter_cons_of_neg (by rw [ha]; decide), ih]
theorem has_vals (s : List UInt8) (fs : List Fd.Fl) : hasF s fs = decide (Fd.vals s fs ≠ []) := by
  unfold hasF Fd.findF Fd.vals
  induction fs with
  | nil => rfl
  | cons p t ih =>
    cases ha : Fd.alike s p with
    | true => rw [List.find?_cons_of_pos ha, List.filter_cons_of_pos ha]; rfl
    | false => rw [List.find?_cons_of_neg (by rw [ha]; decide), List.filter_cons_of_neg (by rw [ha]; decide)]; exact ih
theorem has_few (s : List UInt8) (hs : s ∈ four) (fs : List Fd.Fl) : hasF s (fewF fs) = hasF s fs := by
  rw [has_vals, has_vals, vals_few s hs]
theorem decide_few (m : List UInt8) (fs : List Fd.Fl) (s : St) (now : Int) : decideV m (fewF fs) s now = decideV m fs s now := by
  have h1 := vals_few sMatch (by decide) fs
  have h2 := vals_few sNone (by decide) fs
  have h3 := vals_few sUnmod (by decide) fs
  have h4 := vals_few sMod (by decide) fs
  have k1 := has_few sMatch (by decide) fs
  have k2 := has_few sNone (by decide) fs
  unfold decideV matchV unmodV noneV modV meetsF dateV
  rw [h1, h2, h3, h4, k1, k2]
theorem decide_three (m : List UInt8) (fs : List Fd.Fl) (s : St) (now : Int) : decideV m fs s now = 0 ∨ decideV m fs s now = 412 ∨ (decideV m fs s now = 304 ∧ readsM m = true) := by
  have a : matchV fs s = 0 ∨ matchV fs s = 412 := by unfold matchV; split; exact .inr rfl; exact .inl rfl
  have u : unmodV fs s now = 0 ∨ unmodV fs s now = 412 := by unfold unmodV; split; exact .inr rfl; exact .inl rfl
  have b : noneV m fs s = 0 ∨ noneV m fs s = 412 ∨ (noneV m fs s = 304 ∧ readsM m = true) := by
    unfold noneV
    split
    · split
      · rename_i h; exact .inr (.inr ⟨rfl, h⟩)
      · exact .inr (.inl rfl)
    · exact .inl rfl
  have d : modV m fs s now = 0 ∨ (modV m fs s now = 304 ∧ readsM m = true) := by
    unfold modV
    split
    · rename_i h
      refine .inr ⟨rfl, ?_⟩
      rw [Bool.and_eq_true, Bool.and_eq_true, Bool.and_eq_true] at h
      exact h.2.2.1
    · exact .inl rfl
  unfold decideV decideG
  rcases a with a | a
  · rw [a, if_neg (fun h => h rfl)]
    rcases u with u | u
    · rw [u, if_neg (fun h => h rfl)]
      rcases b with b | b | b
      · rw [b, if_neg (fun h => h rfl)]
        rcases d with d | d
        · exact .inl d
        · exact .inr (.inr d)
      · rw [b, if_pos (by decide)]; exact .inr (.inl rfl)
      · rw [b.1, if_pos (by decide)]; exact .inr (.inr ⟨rfl, b.2⟩)
    · rw [u, if_pos (by decide)]; exact .inr (.inl rfl)
  · rw [a, if_pos (by decide)]; exact .inr (.inl rfl)
theorem decide_nil (m : List UInt8) (s : St) (now : Int) : decideV m [] s now = 0 := by
  have e1 : (listT []).1 = [] := by decide +kernel
  have e2 : (listT []).2.1 = false := by decide +kernel
  have v : ∀ n, Fd.vals n [] = [] := fun n => rfl
  have h : ∀ n, hasF n [] = false := fun n => rfl
  have j : joinF [] = [] := by decide +kernel
  have dt : ∀ n, (dateV n [] s now).2 = false := by
    intro n
    unfold dateV
    rw [v]
    rfl
  unfold decideV matchV unmodV noneV modV meetsF meetsV
  rw [dt sUnmod, dt sMod, v sMatch, v sNone, h sMatch, j, e1, e2]
  simp [decideG]
theorem few_sum (fs : List Fd.Fl) : Fd.sumF (fewF fs) ≤ Fd.sumF fs := by
  unfold Fd.sumF fewF
  induction fs with
  | nil => exact Nat.le_refl _
  | cons p t ih =>
    cases hm : mineB p.1 with
    | true =>
      rw [List.filter_cons_of_pos (by exact hm)]
      simp only [List.map_cons, List.sum_cons]
      have e : Fd.szF (lower p.1, p.2) = Fd.szF p := by simp [Fd.szF, lower]
      rw [e]
      omega
    | false =>
      rw [List.filter_cons_of_neg (by rw [hm]; decide)]
      simp only [List.map_cons, List.sum_cons]
      omega
theorem few_take (fs : List Fd.Fl) (k : Nat) (h : k < fs.length) : fewF (fs.take (k + 1)) = fewF (fs.take k) ++ (if mineB (Fd.nth fs k).1 then [(lower (Fd.nth fs k).1, (Fd.nth fs k).2)] else []) := by
  unfold fewF Fd.nth
  rw [List.take_succ_eq_append_getElem h, List.filter_append, List.map_append, List.getD_eq_getElem?_getD, List.getElem?_eq_getElem h]
  congr 1
  cases hm : mineB fs[k].1 with
  | true => rw [List.filter_cons_of_pos (by exact hm)]; simp [hm]
  | false => rw [List.filter_cons_of_neg (by rw [hm]; decide)]; simp [hm]

end Tt
end Go.Proofs.YtjngpafokkjkdaaDoor

/-
  The law TagApart (written by mkwap.py).
-/
set_option linter.unusedVariables false
set_option linter.unusedSimpArgs false
namespace Go.Proofs.YtjngpafokkjkdaaDoor
open Go.RowKit Go.Shelf
namespace Fd
open Oc Tg

/-- A slice of fields appended to one of the call's own, in a region that draws its order. -/
theorem step_appFs8 {ops : Array Oper} {o : Oper} {a : Act} {K : Act → World → Prop} {Q : Exit → Act → World → Prop} {E' : Prop} (hgd : o.guard = none) (s x : Operand)
    (ho : o.op = .call { callee := .builtin .append, args := #[s, x], argTypes := #[22, 22] }) (B : Nat) (v y : Value) (t u : List Fl) (W : World)
    (hs : a.eval s = v) (hown : OwnF 32 B v t W) (hx : a.eval x = y) (hy : InF y u W) (hlen : t.length + u.length ≤ 2147483648) (hB : B ≤ W.heap.size)
    (h : ∀ v' w', Hid (OwnF 32 B v' (t ++ u) w') → Hid (Below B W w') → K (a.put o.dst v') w') :
    if Region.wanted o (yielded ops a.tmps) = true then Oper.wp Tryd.prog o a W K Q else E' := by
  rw [if_pos (by simp [Region.wanted, hgd])]
  obtain ⟨i0, hi, hz0, hz1, hz2⟩ := info_parts infoF
  have own' : ∀ (ad : Addr) (c : Nat), y = .slice (some ad) u.length c → (∀ j z, (encF u)[j]? = some z → W.cell? (ad.add j) = some z) → o.wp Tryd.prog a W K Q := by
    intro ad c ey hcell
    refine wp_append_own W s x 22 ho B 32 i0 (.agg #[.string ⟨#[]⟩, .string ⟨#[]⟩]) 2 32 Tryd.underlying22 hi hz0 hz1 hz2 rfl (by decide) v t.length _ hs hown ad u.length c (encF u) (hx.trans ey) (encF_len u) hcell ?_ ?_ ?_ hB ?_
    · intro z hz
      obtain ⟨j, hj⟩ := List.getElem?_of_mem hz
      obtain ⟨_, e⟩ := encF_get u j z hj
      rw [e]
      split <;> rfl
    · unfold maxLen; omega
    · omega
    · intro v' w' h1 h2 _
      refine h v' w' ?_ ((Below.refl B W).grown h2 hB (fun k hk => (World.ownsRow.lt hown k hk).1))
      show OwnF _ _ _ _ _
      unfold OwnF
      rw [List.length_append, show encF (t ++ u) = encF t ++ encF u by unfold encF; rw [List.flatMap_append]]
      exact h1
  obtain ⟨⟨a2, c2, rfl, hr⟩, hnil⟩ := hy
  by_cases hu : u = []
  · subst hu
    rcases hnil rfl with e | ⟨g, c, e⟩
    · have hrun := run_append_owned_none (P := Tryd.prog) (w := W) B 22 o.type 32 i0 2 Tryd.underlying22 hi v t.length _ hown
      have hx' : a.eval x = .slice none 0 0 := hx.trans e
      unfold Oper.wp
      simp [execOp, ho, resolve, invoke, builtin, hs, hx', hrun, Result.andThen]
      exact h v W (by rw [List.append_nil]; exact hown) (Below.refl _ _)
    · exact own' g c e (fun j z hj => by simp [encF] at hj)
  · rcases hr with hr | ⟨g, o', rfl, hc, hcell⟩
    · exact absurd hr hu
    · refine own' ⟨g, o', none⟩ c2 rfl (fun j z hj => ?_)
      rw [addr_add]
      obtain ⟨hq, e⟩ := encF_get u j z hj
      obtain ⟨h0, h1⟩ := hcell (j / 2) hq
      rw [e]
      by_cases hm : j % 2 = 0
      · rw [if_pos hm]
        rw [show o' + j / 2 * 2 = o' + j by omega] at h0
        exact h0
      · rw [if_neg hm]
        rw [show o' + j / 2 * 2 + 1 = o' + j by omega] at h1
        exact h1

theorem step_appF8 {ops : Array Oper} {o : Oper} {a : Act} {K : Act → World → Prop} {Q : Exit → Act → World → Prop} {E : Prop} (hgd : o.guard = none) (s x : Operand)
    (ho : o.op = .call { callee := .builtin .append, args := #[s, x], argTypes := #[22, 22] }) (B : Nat) (v : Value) (t : List Fl) (W : World) (p : Fl) (n1 n2 : ByteArray) (h1 : n1 = str p.1) (h2 : n2 = str p.2)
    (hs : a.eval s = v) (hown : OwnF 32 B v t W) (g : Nat) (hx : a.eval x = .slice (some ⟨g, 0, none⟩) 1 1) (hg : g = W.heap.size) (hlen : t.length + 1 ≤ 2147483648) (hB : B ≤ W.heap.size)
    (h : ∀ v' w', Hid (OwnF 32 B v' (t ++ [p]) w') → Hid (Below B W w') → K (a.put o.dst v') w') : if Region.wanted o (yielded ops a.tmps) = true then Oper.wp Tryd.prog o a (W.alloc (.cells #[.string n1, .string n2] 32)) K Q else E := by
  subst h1 h2 hg
  have hw : Region.wanted o (yielded ops a.tmps) = true := by simp [Region.wanted, hgd]
  rw [if_pos hw]
  obtain ⟨i0, hi, hz0, hz1, hz2⟩ := info_parts infoF
  refine wp_append_own _ s x 22 ho B 32 i0 (.agg #[.string ⟨#[]⟩, .string ⟨#[]⟩]) 2 32 Tryd.underlying22 hi hz0 hz1 hz2 rfl (by decide) v t.length _ hs (World.ownsRow.alloc hown _) ⟨W.heap.size, 0, none⟩ 1 1 (encF1 p) hx rfl ?_ ?_ ?_ ?_ ?_ ?_
  · intro j u hj
    unfold encF1 at hj
    match j, hj with
    | 0, hj => simp at hj; subst hj; simp [Addr.add]
    | 1, hj => simp at hj; subst hj; simp [Addr.add]
  · intro u hu
    unfold encF1 at hu
    simp at hu
    rcases hu with rfl | rfl <;> rfl
  · unfold maxLen; omega
  · omega
  · simp; omega
  · intro v' w' h1 h2 _
    refine h v' w' ?_ (((Below.refl B W).alloc hB _).grown h2 (by simp; omega) (fun k hk => (World.ownsRow.lt hown k hk).1))
    show OwnF _ _ _ _ _
    unfold OwnF
    rw [encF_snoc, List.length_append]
    exact h1
end Fd
namespace Tt
open Oc Tg

theorem mine_at (n : List UInt8) (k : Nat) (hk : k < 4) (h : decide (lower n = lower (four.getD k [])) = true) : mineB n = true := by
  unfold mineB
  rw [List.any_eq_true]
  refine ⟨four.getD k [], ?_, h⟩
  match k, hk with
  | 0, _ => decide
  | 1, _ => decide
  | 2, _ => decide
  | 3, _ => decide
theorem mine_not (n : List UInt8) (h : ∀ j, j < 4 → decide (lower n = lower (four.getD j [])) = false) : mineB n = false := by
  unfold mineB
  have h0 := h 0 (by decide)
  have h1 := h 1 (by decide)
  have h2 := h 2 (by decide)
  have h3 := h 3 (by decide)
  simp only [four, List.any_cons, List.any_nil, Bool.or_false]
  have e0 : four.getD 0 [] = sMatch := rfl
  have e1 : four.getD 1 [] = sNone := rfl
  have e2 : four.getD 2 [] = sUnmod := rfl
  have e3 : four.getD 3 [] = sMod := rfl
  rw [e0] at h0
  rw [e1] at h1
  rw [e2] at h2
  rw [e3] at h3
  rw [h0, h1, h2, h3]
  rfl

set_option maxRecDepth 100000 in
set_option maxHeartbeats 2000000 in
theorem mine_any (n : List UInt8) (hn : n.length ≤ 4194304) (w : World) :
    Calls Tryd.prog 6 #[.string (str n)] w fun e w' => e = .returned (.bool (mineB n)) ∧ Below w.heap.size w w' := by
  obtain ⟨w1, hw1⟩ : ∃ w1, w1 = w.alloc (.cells #[.string ⟨#[73, 102, 45, 77, 97, 116, 99, 104]⟩, .string ⟨#[73, 102, 45, 78, 111, 110, 101, 45, 77, 97, 116, 99, 104]⟩, .string ⟨#[73, 102, 45, 85, 110, 109, 111, 100, 105, 102, 105, 101, 100, 45, 83, 105, 110, 99, 101]⟩, .string ⟨#[73, 102, 45, 77, 111, 100, 105, 102, 105, 101, 100, 45, 83, 105, 110, 99, 101]⟩] 9) := ⟨_, rfl⟩
  have HB1 : Hid (Below w.heap.size w w1) := by rw [hw1]; exact (Below.refl _ w).alloc (Nat.le_refl _) _
  have R1 : w1.heap[w.heap.size]? = some (.cells #[.string ⟨#[73, 102, 45, 77, 97, 116, 99, 104]⟩, .string ⟨#[73, 102, 45, 78, 111, 110, 101, 45, 77, 97, 116, 99, 104]⟩, .string ⟨#[73, 102, 45, 85, 110, 109, 111, 100, 105, 102, 105, 101, 100, 45, 83, 105, 110, 99, 101]⟩, .string ⟨#[73, 102, 45, 77, 111, 100, 105, 102, 105, 101, 100, 45, 83, 105, 110, 99, 101]⟩] 9 (0, 0)) := by rw [hw1]; exact heap_alloc_new w _
  have HC : Hid (∀ j, j < 4 → w1.cell? ⟨w.heap.size, j, none⟩ = some (.string (str (four.getD j [])))) := fun j hj => by
    rw [Lib.cell_of_heap R1 j]
    match j, hj with
    | 0, _ => rfl
    | 1, _ => rfl
    | 2, _ => rfl
    | 3, _ => rfl
  have hz : w.heap.size < w1.heap.size := (Array.getElem?_eq_some_iff.1 R1).1
  have HAl : Hid (∀ (k : Nat), k < 4 → ∀ W, Calls Tryd.prog 10 #[.string (str n), .string (str (four.getD k []))] W fun e w' => e = .returned (.bool (decide (lower n = lower (four.getD k [])))) ∧ Below W.heap.size W w') := fun k hk W => by
    have h := Fd.rAlike_any (str n) (str (four.getD k [])) (by rw [str_size]; unfold maxLen; omega) (by
      rw [str_size]
      match k, hk with
      | 0, _ => decide
      | 1, _ => decide
      | 2, _ => decide
      | 3, _ => decide) W
    rw [Fd.low_alike] at h
    exact h
  have HY : Hid (∀ k, k < 4 → decide (lower n = lower (four.getD k [])) = true → mineB n = true) := fun k hk h => mine_at n k hk h
  have HNo : Hid ((∀ j, j < 4 → decide (lower n = lower (four.getD j [])) = false) → mineB n = false) := fun h => mine_not n h
  generalize mineB n = M at *
  clear R1
  go_enter Tryd.func6, Tryd.ntmps6
  go_wp2
  rw [← hw1]
  clear hw1
  go_loopw [7] (fun i wr => ∃ k : Nat, k ≤ 4 ∧ i = .int .i64 k ∧ Hid (∀ j, j < k → decide (lower n = lower (four.getD j [])) = false) ∧ Hid (Below w1.heap.size w1 wr)) (fun i _ => 4 - (intOf i).toNat)
  case atStart => exact ⟨0, by omega, rfl, (fun j hj => absurd hj (Nat.not_lt_zero _) : ∀ j, j < 0 → _), Below.refl _ _⟩
  case round =>
    obtain ⟨k, hk, rfl, hA, hbl⟩ := hrel
    by_cases hlt : k < 4
    · have c0 := (hbl.out.cell (p := ⟨w.heap.size, k, none⟩) hz).trans (HC.out k hlt)
      have HX : Hid (∀ W, _) := fun W => HAl.out k hlt W
      have HYk : Hid (_ → M = true) := HY.out k hlt
      have HAn : Hid (decide (lower n = lower (four.getD k [])) = false → ∀ j, j < k + 1 → decide (lower n = lower (four.getD j [])) = false) := fun h j hj => by
        by_cases e : j = k
        · rw [e]; exact h
        · exact hA.out j (by omega)
      generalize decide (lower n = lower (four.getD k [])) = D at *
      generalize str (four.getD k []) = F at *
      go_wp2_with fail
      refine (HX.out _).mono ?_
      rintro e w2 ⟨rfl, hb2⟩
      have HB2 : Hid (Below w1.heap.size w1 w2) := bel_trans hbl.out hb2
      clear hb2
      cases D with
      | true =>
        have hM : M = true := HYk.out rfl
        go_wp2
        go_ret
        rw [hM]
        exact ⟨rfl, HB1.out.trans (HB2.out.mono HB1.out.size)⟩
      | false =>
        have HAk : Hid (∀ j, j < k + 1 → decide (lower n = lower (four.getD j [])) = false) := HAn.out rfl
        go_wp2
        go_roundw
        case rel => exact ⟨k + 1, by omega, by go_num, HAk, HB2⟩
        case measure => simp [intOf]; omega
    · obtain rfl : k = 4 := by omega
      have hM : M = false := HNo.out hA.out
      go_wp2
      go_ret
      rw [hM]
      exact ⟨rfl, HB1.out.trans (hbl.out.mono HB1.out.size)⟩

set_option maxRecDepth 100000 in
set_option maxHeartbeats 8000000 in
theorem walk_TagApart (A : ByteArray) (u : Value) (t : List Fd.Fl) (now : Int) (s : St) (hnow : Bs.I64 now) (hA : A.size ≤ 1048576) (hsum : Fd.sumF t ≤ 1048576) (w : World) (hin : Fd.InF u t w) (hml : Fd.ML w) (tb : Bs.Tb w) :
    Calls Tryd.prog 3 #[.agg #[.string A, u, .int .i64 now], .agg #[.bool s.th, .bool s.own.1, .string (str s.own.2), .bool s.tg, .int .i64 s.tm, .bool s.td]] w fun e w' => e = .returned (.bool true) ∧ Below w.heap.size w w' := by
  have hlen := Fd.len_sumF t
  have HEa : Hid (∀ k, k < t.length → (Fd.nth t k).1.length ≤ 1048576) := fun k hk => by
    have := Fd.each_sumF t (Fd.nth t k) (by unfold Fd.nth; rw [List.getD_eq_getElem?_getD, List.getElem?_eq_getElem hk]; exact List.getElem_mem _)
    omega
  have HAw : Hid (∀ W, Fd.ML W → _) := fun W h => awake_any W h
  have HDc : Hid (∀ fv W, Fd.RdF fv t W → Fd.ML W → Bs.Tb W → _) := fun fv W h1 h2 h3 => Decide_any A.data.toList fv t s now W h1 hsum h2 hnow h3
  have HDf : Hid (∀ fv W, Fd.RdF fv (fewF t) W → Fd.ML W → Bs.Tb W → _) := fun fv W h1 h2 h3 => Decide_any A.data.toList fv (fewF t) s now W h1 (Nat.le_trans (few_sum t) hsum) h2 hnow h3
  rw [decide_few] at HDf
  rw [str_self] at HDc HDf
  have HD3 : Hid (decideV A.data.toList t s now = 0 ∨ decideV A.data.toList t s now = 412 ∨ (decideV A.data.toList t s now = 304 ∧ readsM A.data.toList = true)) := decide_three _ t s now
  have HDn : Hid (fewF t = [] → decideV A.data.toList t s now = 0) := fun h => by rw [← decide_few, h, decide_nil]
  generalize decideV A.data.toList t s now = DV at *
  have q1 := eq_lit A.data.toList [71, 69, 84]
  have q2 := eq_lit A.data.toList [72, 69, 65, 68]
  rw [str_self] at q1 q2
  have HRd : Hid (readsM A.data.toList = (decide (A.data.toList = [71, 69, 84]) || decide (A.data.toList = [72, 69, 65, 68]))) := (rfl : _ = _)
  generalize decide (A.data.toList = [71, 69, 84]) = g1 at *
  generalize decide (A.data.toList = [72, 69, 65, 68]) = g2 at *
  rw [HRd.out] at HD3
  have Q1 : Hid (_ = g1) := q1
  have Q2 : Hid (_ = g2) := q2
  clear q1 q2 HRd
  obtain ⟨ua, uc, hu, _⟩ := hin.1
  subst hu
  have HI0 : Hid (Fd.InF (.slice ua t.length uc) t w) := hin
  have HML : Hid (Fd.ML w) := hml
  have HTB : Hid (Bs.Tb w) := tb
  clear hin hml tb
  obtain ⟨th, own, tg, tm, td⟩ := s
  obtain ⟨ob, ot⟩ := own
  dsimp only at *
  generalize str ot = OT at *
  obtain ⟨w1, hw1⟩ : ∃ w1, w1 = w.alloc (.cells #[.string A, .slice ua t.length uc, .int .i64 now] 24) := ⟨_, rfl⟩
  obtain ⟨w2, hw2⟩ : ∃ w2, w2 = w1.alloc (.cells #[.bool th, .bool ob, .string OT, .bool tg, .int .i64 tm, .bool td] 28) := ⟨_, rfl⟩
  have z1 : w1.heap.size = w.heap.size + 1 := by rw [hw1]; simp
  have HB2 : Hid (Below w.heap.size w w2) := (by rw [hw2, hw1]; exact ((Below.refl _ w).alloc (Nat.le_refl _) _).alloc (by simp) _ : Below _ _ _)
  have R0 : w2.heap[w.heap.size]? = some (.cells #[.string A, .slice ua t.length uc, .int .i64 now] 24 (0, 0)) := by
    rw [hw2, Lib.alloc_old w1 _ _ (by omega), hw1]; exact heap_alloc_new w _
  have R1 : w2.heap[w.heap.size + 1]? = some (.cells #[.bool th, .bool ob, .string OT, .bool tg, .int .i64 tm, .bool td] 28 (0, 0)) := by
    rw [hw2, ← z1]; exact heap_alloc_new w1 _
  have HK : Hid (∀ W : World, Below w2.heap.size w2 W → (W.cell? ⟨w.heap.size, 0, none⟩ = some (.string A) ∧ W.cell? ⟨w.heap.size, 1, none⟩ = some (.slice ua t.length uc) ∧ W.cell? ⟨w.heap.size, 2, none⟩ = some (.int .i64 now) ∧ W.cell? ⟨w.heap.size + 1, 0, none⟩ = some (.bool th) ∧ W.cell? ⟨w.heap.size + 1, 1, none⟩ = some (.bool ob) ∧ W.cell? ⟨w.heap.size + 1, 2, none⟩ = some (.string OT) ∧ W.cell? ⟨w.heap.size + 1, 3, none⟩ = some (.bool tg) ∧ W.cell? ⟨w.heap.size + 1, 4, none⟩ = some (.int .i64 tm) ∧ W.cell? ⟨w.heap.size + 1, 5, none⟩ = some (.bool td))) := fun W hb => by
    have X := (hb.block _ (Array.getElem?_eq_some_iff.1 R0).1).trans R0
    have Y := (hb.block _ (Array.getElem?_eq_some_iff.1 R1).1).trans R1
    exact ⟨by have := Lib.cell_of_heap X 0; simpa using this, by have := Lib.cell_of_heap X 1; simpa using this, by have := Lib.cell_of_heap X 2; simpa using this, by have := Lib.cell_of_heap Y 0; simpa using this, by have := Lib.cell_of_heap Y 1; simpa using this, by have := Lib.cell_of_heap Y 2; simpa using this, by have := Lib.cell_of_heap Y 3; simpa using this, by have := Lib.cell_of_heap Y 4; simpa using this, by have := Lib.cell_of_heap Y 5; simpa using this⟩
  have HRu : Hid (∀ W : World, Below w2.heap.size w2 W → Fd.InF (.slice ua t.length uc) t W) := fun W hb => HI0.out.below (bel_trans HB2.out hb)
  have HMu : Hid (∀ W : World, Below w2.heap.size w2 W → Fd.ML W) := fun W hb => HML.out.below (bel_trans HB2.out hb)
  have HTu : Hid (∀ W : World, Below w2.heap.size w2 W → Bs.Tb W) := fun W hb => HTB.out.bel (bel_trans HB2.out hb)
  clear R0 R1 z1
  go_enter Tryd.func3, Tryd.ntmps3
  go_wp2_with fail
  rw [← hw1, ← hw2]
  clear hw1 hw2
  refine (HAw.out _ (HMu.out _ (Below.refl _ _))).mono ?_
  rintro e w3 ⟨rfl, hb3⟩
  have HB3 : Hid (Below w2.heap.size w2 w3) := hb3
  have HBd : Hid (Below w2.heap.size w2 w3.drew) := below_drewN hb3 1
  have HBn : Hid (Below w2.heap.size w2 w3.drew) := HBd.out
  have HBa : Hid (Below w2.heap.size w2 (w3.alloc (.cells #[] 32)).drew) := below_drewN (HB3.out.alloc HB3.out.size _) 1
  obtain ⟨a0, a1, a2, b0, b1, b2, b3, b4, b5⟩ := HK.out w3 hb3
  obtain ⟨c0, c1, c2, d0, d1, d2, d3, d4, d5⟩ := HK.out w3.drew HBd.out
  have HOe : Hid (Fd.OwnF 32 w3.heap.size (.slice (some ⟨w3.heap.size, 0, none⟩) 0 0) [] (w3.alloc (.cells #[] 32)).drew) := Fd.OwnF.below (Fd.ownF_empty 32 w3 (Nat.le_refl _)) (below_drewN (Below.refl _ _) 1)
  have HTl : Hid (([] : List Fd.Fl).length + t.length ≤ 2147483648) := (by simp; omega : _ ≤ _)
  have hla : Hid (w3.heap.size ≤ (w3.alloc (.cells #[] 32)).drew.heap.size) := (by show w3.heap.size ≤ (w3.alloc (.cells #[] 32)).heap.size; simp : _ ≤ _)
  clear hb3
  go_wp2_with fail
  go_region_held3 (fun W => (W.cell? ⟨w.heap.size, 0, none⟩ = some (.string A) ∧ W.cell? ⟨w.heap.size, 1, none⟩ = some (.slice ua t.length uc) ∧ W.cell? ⟨w.heap.size, 2, none⟩ = some (.int .i64 now) ∧ W.cell? ⟨w.heap.size + 1, 0, none⟩ = some (.bool th) ∧ W.cell? ⟨w.heap.size + 1, 1, none⟩ = some (.bool ob) ∧ W.cell? ⟨w.heap.size + 1, 2, none⟩ = some (.string OT) ∧ W.cell? ⟨w.heap.size + 1, 3, none⟩ = some (.bool tg) ∧ W.cell? ⟨w.heap.size + 1, 4, none⟩ = some (.int .i64 tm) ∧ W.cell? ⟨w.heap.size + 1, 5, none⟩ = some (.bool td))) (first | with_reducible exact HK.out _ HBn.out | with_reducible exact HK.out _ HBa.out) (first | (refine Fd.step_appFs8 rfl (.tmp 13) (.tmp 15) rfl w3.heap.size _ _ [] t _ rfl HOe.out rfl (HRu.out _ HBa.out) HTl.out hla.out ?_; intro v5 w5 HO5 HBl5; have HBn : Hid (Below w2.heap.size w2 w5) := HBa.out.trans (HBl5.out.mono HB3.out.size); have HU5 : Hid (Fd.RdF v5 t w5) := HO5.out.rd; clear HBl5) | (go_at_call 5; refine (HDc.out _ _ HU5.out (HMu.out _ HBn.out) (HTu.out _ HBn.out)).mono ?_; rintro e wn ⟨rfl, hbn⟩; have HBn : Hid (Below w2.heap.size w2 wn) := HBn.out.trans (hbn.mono HBn.out.size); clear hbn))
  all_goals
    clear HO5 HU5 HOe HBa HBd a0 a1 a2 b0 b1 b2 b3 b4 b5 c0 c1 c2 d0 d1 d2 d3 d4 d5
    obtain ⟨w6, rfl⟩ : ∃ w6, w6 = wn := ⟨_, rfl⟩
    have HC6 : Hid (Below w2.heap.size w2 w6) := HBn.out
    clear HBn
    obtain ⟨a0, a1, a2, b0, b1, b2, b3, b4, b5⟩ := HK.out w6 HC6.out
    have HU6 : Hid (Fd.RdF (.slice ua t.length uc) t w6) := (HRu.out _ HC6.out).1
    have HB6 : Hid (Below w.heap.size w w6) := bel_trans HB2.out HC6.out
    go_wp2
    go_loopw [6, 24] (fun ov i wr => ∃ k : Nat, k ≤ t.length ∧ i = .int .i64 k ∧ Hid (Fd.OwnF 32 w6.heap.size ov (fewF (t.take k)) wr) ∧ Hid (Below w6.heap.size w6 wr)) (fun _ i _ => t.length - (intOf i).toNat)
    case atStart => exact ⟨0, Nat.zero_le _, rfl, Fd.ownF_nil _ _ _, Below.refl _ _⟩
    case round =>
      clear a0 a1 a2 b0 b1 b2 b3 b4 b5
      obtain ⟨k, hk, rfl, hown, hbl⟩ := hrel
      have hsz := hbl.out.size
      by_cases hlt : k < t.length
      · obtain ⟨a', c', e', hcs⟩ := HU6.out.below hbl.out
        injection e' with e1 _ e2
        subst e1 e2
        rcases hcs with h | ⟨g, o, rfl, hlc, hcell⟩
        · rw [h] at hlt; simp at hlt
        obtain ⟨p0, p1⟩ := hcell k hlt
        have hgz : g < wr.heap.size := World.block_lt_of_cell? wr _ p0
        have HF : Hid (fewF (t.take (k + 1)) = _) := few_take t k hlt
        have hpl := HEa.out k hlt
        have hlk : (fewF (t.take k)).length + 1 ≤ 2147483648 := by
          have : (fewF (t.take k)).length ≤ (t.take k).length := by unfold fewF; rw [List.length_map]; exact List.length_filter_le _ _
          rw [List.length_take] at this
          omega
        have HMi : Hid (∀ W, _) := fun W => mine_any (Fd.nth t k).1 (by omega) W
        have HLo : Hid (∀ W, Calls Tryd.prog 7 #[.string (str (Fd.nth t k).1)] W fun e w' => e = .returned (.string (str (lower (Fd.nth t k).1))) ∧ Below W.heap.size W w') := fun W => by
          have h := Fd.rLower_any (str (Fd.nth t k).1) (by rw [str_size]; unfold maxLen; omega) W
          unfold lowS at h
          rw [str_list] at h
          exact h
        clear hcell
        generalize Fd.nth t k = p at *
        obtain ⟨pn, pv⟩ := p
        dsimp only at p0 p1 HF HMi HLo hpl
        generalize mineB pn = MB at *
        have HL1 : Hid (str (lower pn) = str (lower pn)) := rfl
        generalize hlo : str (lower pn) = LN at *
        have HLN : Hid (LN = str (lower pn)) := hlo.symm
        generalize hpv : str pv = PV at *
        have HPV : Hid (PV = str pv) := hpv.symm
        generalize str pn = PN at *
        clear hlo hpv HL1
        obtain ⟨wf, hwf⟩ : ∃ wf, wf = wr.alloc (.cells #[.string PN, .string PV] 32) := ⟨_, rfl⟩
        have Rf : Hid (wf.heap[wr.heap.size]? = some (.cells #[.string PN, .string PV] 32 (0, 0))) := by rw [hwf]; exact heap_alloc_new wr _
        have HWf : Hid (Below w6.heap.size w6 wf) := by rw [hwf]; exact hbl.out.alloc hsz _
        have HOf : Hid (Fd.OwnF 32 w6.heap.size u6 (fewF (t.take k)) wf) := by rw [hwf]; exact hown.out.below ((Below.refl _ wr).alloc (Nat.le_refl _) _)
        go_wp2_with fail
        rw [← hwf]
        refine (HMi.out _).mono ?_
        rintro e w7 ⟨rfl, hb7⟩
        have HW7 : Hid (Below w6.heap.size w6 w7) := bel_trans HWf.out hb7
        have HO7 : Hid (Fd.OwnF 32 w6.heap.size u6 (fewF (t.take k)) w7) := HOf.out.below hb7
        have R7 := (hb7.block _ (Array.getElem?_eq_some_iff.1 Rf.out).1).trans Rf.out
        have x0 := Lib.cell_of_heap R7 0
        have x1 := Lib.cell_of_heap R7 1
        simp at x0 x1
        have hz7 : wr.heap.size < w7.heap.size := (Array.getElem?_eq_some_iff.1 R7).1
        clear hb7 R7 hwf
        cases MB with
        | false =>
          have HOn : Hid (Fd.OwnF 32 w6.heap.size u6 (fewF (t.take (k + 1))) w7) := (by rw [HF.out]; simpa using HO7.out : Fd.OwnF _ _ _ _ _)
          go_wp2
          go_roundw
          case rel => exact ⟨k + 1, by omega, by go_num, HOn, HW7⟩
          case measure => simp [intOf]; omega
        | true =>
          have y0 : w7.drew.cell? ⟨wr.heap.size, 0, none⟩ = some (.string PN) := x0
          have y1 : w7.drew.cell? ⟨wr.heap.size, 1, none⟩ = some (.string PV) := x1
          have HBd7 : Hid (Below w7.heap.size w7 w7.drew) := ⟨rfl, rfl, rfl, Nat.le_refl _, fun _ _ => rfl⟩
          have HWd : Hid (Below w6.heap.size w6 w7.drew) := HW7.out.trans (HBd7.out.mono HW7.out.size)
          have HKf : Hid (∀ W, Below w7.heap.size w7 W → W.cell? ⟨wr.heap.size, 0, none⟩ = some (.string PN) ∧ W.cell? ⟨wr.heap.size, 1, none⟩ = some (.string PV)) := fun W hb => ⟨(hb.cell (p := ⟨wr.heap.size, 0, none⟩) hz7).trans x0, (hb.cell (p := ⟨wr.heap.size, 1, none⟩) hz7).trans x1⟩
          go_wp2_with fail
          go_region_law (first | (go_simp; go_at_call 7; refine (HLo.out _).mono ?_; rintro e w8 ⟨rfl, hb8⟩; dsimp only; obtain ⟨y0, y1⟩ := HKf.out w8 (bel_trans HBd7.out hb8); have HO8 : Hid (Fd.OwnF 32 w6.heap.size u6 (fewF (t.take k)) w8) := (HO7.out.below HBd7.out).below hb8; have HW8 : Hid (Below w6.heap.size w6 w8) := HWd.out.trans (hb8.mono HWd.out.size); have hz8 : w6.heap.size ≤ w8.heap.size := HW8.out.size; clear hb8) | (refine Fd.step_appF8 rfl (.tmp 31) (.tmp 38) rfl w6.heap.size u6 (fewF (t.take k)) w8 (lower pn, pv) _ _ HLN.out HPV.out (by simp [Act.eval, Act.put]) HO8.out _ (by simp [Act.eval, Act.put]) rfl hlk hz8 ?_; intro v9 w9 HO9 HB9))
          all_goals
            have HOn : Hid (Fd.OwnF 32 w6.heap.size v9 (fewF (t.take (k + 1))) w9) := (by rw [HF.out]; simpa using HO9.out : Fd.OwnF _ _ _ _ _)
            have HWn : Hid (Below w6.heap.size w6 w9) := HW8.out.trans HB9.out
            go_wp2
            go_roundw
            case rel => exact ⟨k + 1, by omega, by go_num, HOn, HWn⟩
            case measure => simp [intOf]; omega
      · obtain rfl : k = t.length := by omega
        rw [List.take_length] at hown
        have HCr : Hid (Below w2.heap.size w2 wr) := HC6.out.trans (hbl.out.mono HC6.out.size)
        obtain ⟨a0, a1, a2, b0, b1, b2, b3, b4, b5⟩ := HK.out wr HCr.out
        have HRw : Hid (Fd.RdF u6 (fewF t) wr) := hown.out.rd
        obtain ⟨fa, fc, hf6, _⟩ := hown.out.rd
        subst hf6
        have hfl : (fewF t).length ≤ 16777216 := by
          have : (fewF t).length ≤ t.length := by unfold fewF; rw [List.length_map]; exact List.length_filter_le _ _
          omega
        have HFn : Hid ((fewF t).length = 0 → DV = 0) := fun h => HDn.out (List.length_eq_zero_iff.1 h)
        generalize (fewF t).length = FL at *
        go_wp2_with fail
        refine (HDf.out _ _ HRw.out (HMu.out _ HCr.out) (HTu.out _ HCr.out)).mono ?_
        rintro e w9 ⟨rfl, hb9⟩
        have HC9 : Hid (Below w2.heap.size w2 w9) := HCr.out.trans (hb9.mono HCr.out.size)
        clear hb9 a0 a1 a2 b0 b1 b2 b3 b4 b5
        obtain ⟨a0, a1, a2, b0, b1, b2, b3, b4, b5⟩ := HK.out w9 HC9.out
        have HBf : Hid (Below w.heap.size w w9) := bel_trans HB2.out HC9.out
        rcases HD3.out with h | h | ⟨h, hr⟩
        · by_cases hl0 : FL = 0
          · subst hl0 h
            go_wp2
            go_ret
            exact ⟨rfl, HBf.out⟩
          · have hl1 : (0 : Int) < (FL : Int) := by omega
            have hl2 : 0 < FL := by omega
            subst h
            go_wp2
            go_ret
            exact ⟨rfl, HBf.out⟩
        · have hl0 : FL ≠ 0 := fun e => by have := HFn.out e; rw [h] at this; cases this
          have hl1 : (0 : Int) < (FL : Int) := by omega
          have hl2 : 0 < FL := by omega
          subst h
          go_wp2
          go_ret
          exact ⟨rfl, HBf.out⟩
        · subst h
          have hq1 := Q1.out
          have hq2 := Q2.out
          cases g1 with
          | true =>
            go_wp2
            go_ret
            exact ⟨rfl, HBf.out⟩
          | false =>
            have hg2 : g2 = true := by simpa using hr
            subst hg2
            go_wp2
            go_ret
            exact ⟨rfl, HBf.out⟩

theorem walkb_TagApart (A : ByteArray) (u : Value) (t : List Fd.Fl) (n : Int) (i : -9223372036854775808 ≤ n ∧ n ≤ 9223372036854775807) (b : A.size + Fd.bulkfields t ≤ 1048576) (s : St) (is : -9223372036854775808 ≤ s.tm ∧ s.tm ≤ 9223372036854775807) (bs : s.own.2.length ≤ 1048576) (W : World) (R : Fd.InF u t W) (tab : Fd.ML W ∧ Bs.Tb W) :
    Calls Tryd.prog 3 #[.agg #[.string A, u, .int .i64 n], .agg #[.bool s.th, .bool s.own.1, .string (str s.own.2), .bool s.tg, .int .i64 s.tm, .bool s.td]] W fun e w' => e = .returned (.bool true) ∧ Below W.heap.size W w' := by
  unfold Fd.bulkfields at b
  exact walk_TagApart A u t n s i (by omega) (by omega) W R tab.1 tab.2

end Tt
end Go.Proofs.YtjngpafokkjkdaaDoor
