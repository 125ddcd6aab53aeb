/- Several texts as one. -/
import Derived.Test.YtjngpafokkjkdaaGreatDoorMgV
import Derived.Test.YtjngpafokkjkdaaGreatDoorTDh
/-
  tag: the date of a name, whatever there is; the steps by dates; Decide of anything.
-/
set_option linter.unusedVariables false
set_option linter.unusedSimpArgs false
namespace Go.Proofs.YtjngpafokkjkdaaGreatDoor
open Go.RowKit Go.Shelf
namespace Tt
open Oc Tg

/-- The date of a name, and whether it can be held against the state's time. -/
def dateV (n : List UInt8) (fs : List Fd.Fl) (s : St) (now : Int) : Int × Bool :=
  if (Fd.vals n fs).length = 1 ∧ s.th = true ∧ s.td = true then ((Bs.parseS ((Fd.vals n fs).getD 0 []) now).1, (Bs.parseS ((Fd.vals n fs).getD 0 []) now).2.2.1 == 0) else (0, false)
theorem date_any (n : List UInt8) (hn : n.length ≤ 100) {g : Nat} {m : List UInt8} {fv : Value} {fs : List Fd.Fl} {s : St} {now : Int} {w : World} (h : Ask w g m fv fs s now) (hnow : Bs.I64 now) (tb : Bs.Tb w) :
    Calls Tryz.prog 21 #[.pointer (some ⟨g, 0, none⟩), .string (str n)] w fun e w' => e = .returned (.tuple #[.int .i64 (dateV n fs s now).1, .bool (dateV n fs s now).2]) ∧ Below w.heap.size w w' := by
  unfold dateV
  by_cases hc : (Fd.vals n fs).length = 1 ∧ s.th = true ∧ s.td = true
  · rw [if_pos hc]
    obtain ⟨v, hv⟩ := List.length_eq_one_iff.1 hc.1
    have hd := date_yes n hn h v hv hc.2.1 hc.2.2 hnow tb
    rw [hv]
    exact hd
  · rw [if_neg hc]
    refine date_no n hn h ?_
    by_cases h1 : (Fd.vals n fs).length = 1
    · by_cases h2 : s.th = true
      · have h3 : ¬ s.td = true := fun h3 => hc ⟨h1, h2, h3⟩
        exact .inr (.inr (by simpa using h3))
      · exact .inr (.inl (by simpa using h2))
    · exact .inl h1
def unmodV (fs : List Fd.Fl) (s : St) (now : Int) : Int := if ((dateV sUnmod fs s now).2 && (!hasF sMatch fs && decide ((dateV sUnmod fs s now).1 < s.tm))) = true then 412 else 0
def modV (m : List UInt8) (fs : List Fd.Fl) (s : St) (now : Int) : Int := if ((dateV sMod fs s now).2 && (!hasF sNone fs && (readsM m && decide (s.tm ≤ (dateV sMod fs s now).1)))) = true then 304 else 0

set_option maxRecDepth 100000 in
set_option maxHeartbeats 2000000 in
theorem unmodified_any {g : Nat} {m : List UInt8} {fv : Value} {fs : List Fd.Fl} {s : St} {now : Int} {w : World} (h : Ask w g m fv fs s now) (hnow : Bs.I64 now) (tb : Bs.Tb w) :
    Calls Tryz.prog 28 #[.pointer (some ⟨g, 0, none⟩)] w fun e w' => e = .returned (.int .i64 (unmodV fs s now)) ∧ Below w.heap.size w w' := by
  have HD : Hid (Calls Tryz.prog 21 #[.pointer (some ⟨g, 0, none⟩), .string ⟨#[73, 102, 45, 85, 110, 109, 111, 100, 105, 102, 105, 101, 100, 45, 83, 105, 110, 99, 101]⟩] w fun e w' => e = .returned (.tuple #[.int .i64 (dateV sUnmod fs s now).1, .bool (dateV sUnmod fs s now).2]) ∧ Below w.heap.size w w') := date_any sUnmod (by decide) h hnow tb
  have HH : Hid (∀ W, Below w.heap.size w W → Calls Tryz.prog 43 #[.pointer (some ⟨g, 0, none⟩), .string ⟨#[73, 102, 45, 77, 97, 116, 99, 104]⟩] W fun e w' => e = .returned (.bool (hasF sMatch fs)) ∧ Below W.heap.size W w') := fun W hb => has_any sMatch (by decide) (h.below hb)
  have HC : Hid (∀ W, Below w.heap.size w W → W.cell? ⟨g, 6, none⟩ = some (.int .i64 s.tm)) := fun W hb => (h.ab.below hb).c6
  unfold unmodV
  clear h tb
  generalize dateV sUnmod fs s now = D at *
  obtain ⟨d, ok⟩ := D
  dsimp only at *
  generalize hasF sMatch fs = hs at *
  generalize s.tm = tm at *
  cases ok with
  | false =>
    rw [Bool.false_and, if_neg (by simp)]
    go_enter Tryz.func28, Tryz.ntmps28
    go_wp2_with fail
    refine HD.out.mono ?_
    rintro e w2 ⟨rfl, hb2⟩
    go_wp2
    go_ret
    exact ⟨rfl, hb2⟩
  | true =>
    rw [Bool.true_and]
    cases hs with
    | true =>
      rw [Bool.not_true, Bool.false_and, if_neg (by simp)]
      go_enter Tryz.func28, Tryz.ntmps28
      go_wp2_with fail
      refine HD.out.mono ?_
      rintro e w2 ⟨rfl, hb2⟩
      have HB2 : Hid (Below w.heap.size w w2) := hb2
      clear hb2
      go_wp2_with fail
      refine (HH.out _ HB2.out).mono ?_
      rintro e w3 ⟨rfl, hb3⟩
      go_wp2
      go_ret
      exact ⟨rfl, bel_trans HB2.out hb3⟩
    | false =>
      rw [Bool.not_false, Bool.true_and]
      by_cases hd : d < tm
      · rw [if_pos (by simpa using hd)]
        go_enter Tryz.func28, Tryz.ntmps28
        go_wp2_with fail
        refine HD.out.mono ?_
        rintro e w2 ⟨rfl, hb2⟩
        have HB2 : Hid (Below w.heap.size w w2) := hb2
        clear hb2
        go_wp2_with fail
        refine (HH.out _ HB2.out).mono ?_
        rintro e w3 ⟨rfl, hb3⟩
        have HB3 : Hid (Below w.heap.size w w3) := bel_trans HB2.out hb3
        have k := HC.out _ HB3.out
        clear hb3
        go_wp2
        go_ret
        exact ⟨rfl, HB3.out⟩
      · rw [if_neg (by simpa using hd)]
        go_enter Tryz.func28, Tryz.ntmps28
        go_wp2_with fail
        refine HD.out.mono ?_
        rintro e w2 ⟨rfl, hb2⟩
        have HB2 : Hid (Below w.heap.size w w2) := hb2
        clear hb2
        go_wp2_with fail
        refine (HH.out _ HB2.out).mono ?_
        rintro e w3 ⟨rfl, hb3⟩
        have HB3 : Hid (Below w.heap.size w w3) := bel_trans HB2.out hb3
        have k := HC.out _ HB3.out
        clear hb3
        go_wp2
        go_ret
        exact ⟨rfl, HB3.out⟩

set_option maxRecDepth 100000 in
set_option maxHeartbeats 2000000 in
theorem modified_any {g : Nat} {m : List UInt8} {fv : Value} {fs : List Fd.Fl} {s : St} {now : Int} {w : World} (h : Ask w g m fv fs s now) (hnow : Bs.I64 now) (tb : Bs.Tb w) :
    Calls Tryz.prog 30 #[.pointer (some ⟨g, 0, none⟩)] w fun e w' => e = .returned (.int .i64 (modV m fs s now)) ∧ Below w.heap.size w w' := by
  have HD : Hid (Calls Tryz.prog 21 #[.pointer (some ⟨g, 0, none⟩), .string ⟨#[73, 102, 45, 77, 111, 100, 105, 102, 105, 101, 100, 45, 83, 105, 110, 99, 101]⟩] w fun e w' => e = .returned (.tuple #[.int .i64 (dateV sMod fs s now).1, .bool (dateV sMod fs s now).2]) ∧ Below w.heap.size w w') := date_any sMod (by decide) h hnow tb
  have HH : Hid (∀ W, Below w.heap.size w W → Calls Tryz.prog 43 #[.pointer (some ⟨g, 0, none⟩), .string ⟨#[73, 102, 45, 78, 111, 110, 101, 45, 77, 97, 116, 99, 104]⟩] W fun e w' => e = .returned (.bool (hasF sNone fs)) ∧ Below W.heap.size W w') := fun W hb => has_any sNone (by decide) (h.below hb)
  have HR : Hid (∀ W, Below w.heap.size w W → Calls Tryz.prog 45 #[.pointer (some ⟨g, 0, none⟩)] W fun e w' => e = .returned (.bool (readsM m)) ∧ Below W.heap.size W w') := fun W hb => reads_any (h.below hb)
  have HC : Hid (∀ W, Below w.heap.size w W → W.cell? ⟨g, 6, none⟩ = some (.int .i64 s.tm)) := fun W hb => (h.ab.below hb).c6
  unfold modV
  clear h tb
  generalize dateV sMod fs s now = D at *
  obtain ⟨d, ok⟩ := D
  dsimp only at *
  generalize hasF sNone fs = hs at *
  generalize readsM m = rd at *
  generalize s.tm = tm at *
  cases ok with
  | false =>
    rw [Bool.false_and, if_neg (by simp)]
    go_enter Tryz.func30, Tryz.ntmps30
    go_wp2_with fail
    refine HD.out.mono ?_
    rintro e w2 ⟨rfl, hb2⟩
    go_wp2
    go_ret
    exact ⟨rfl, hb2⟩
  | true =>
    rw [Bool.true_and]
    cases hs with
    | true =>
      rw [Bool.not_true, Bool.false_and, if_neg (by simp)]
      go_enter Tryz.func30, Tryz.ntmps30
      go_wp2_with fail
      refine HD.out.mono ?_
      rintro e w2 ⟨rfl, hb2⟩
      have HB2 : Hid (Below w.heap.size w w2) := hb2
      clear hb2
      go_wp2_with fail
      refine (HH.out _ HB2.out).mono ?_
      rintro e w3 ⟨rfl, hb3⟩
      go_wp2
      go_ret
      exact ⟨rfl, bel_trans HB2.out hb3⟩
    | false =>
      rw [Bool.not_false, Bool.true_and]
      cases rd with
      | false =>
        rw [Bool.false_and, if_neg (by simp)]
        go_enter Tryz.func30, Tryz.ntmps30
        go_wp2_with fail
        refine HD.out.mono ?_
        rintro e w2 ⟨rfl, hb2⟩
        have HB2 : Hid (Below w.heap.size w w2) := hb2
        clear hb2
        go_wp2_with fail
        refine (HH.out _ HB2.out).mono ?_
        rintro e w3 ⟨rfl, hb3⟩
        have HB3 : Hid (Below w.heap.size w w3) := bel_trans HB2.out hb3
        clear hb3
        go_wp2_with fail
        refine (HR.out _ HB3.out).mono ?_
        rintro e w4 ⟨rfl, hb4⟩
        go_wp2
        go_ret
        exact ⟨rfl, bel_trans HB3.out hb4⟩
      | true =>
        rw [Bool.true_and]
        by_cases hd : tm ≤ d
        · rw [if_pos (by simpa using hd)]
          go_enter Tryz.func30, Tryz.ntmps30
          go_wp2_with fail
          refine HD.out.mono ?_
          rintro e w2 ⟨rfl, hb2⟩
          have HB2 : Hid (Below w.heap.size w w2) := hb2
          clear hb2
          go_wp2_with fail
          refine (HH.out _ HB2.out).mono ?_
          rintro e w3 ⟨rfl, hb3⟩
          have HB3 : Hid (Below w.heap.size w w3) := bel_trans HB2.out hb3
          clear hb3
          go_wp2_with fail
          refine (HR.out _ HB3.out).mono ?_
          rintro e w4 ⟨rfl, hb4⟩
          have HB4 : Hid (Below w.heap.size w w4) := bel_trans HB3.out hb4
          have k := HC.out _ HB4.out
          clear hb4
          go_wp2
          go_ret
          exact ⟨rfl, HB4.out⟩
        · rw [if_neg (by simpa using hd)]
          go_enter Tryz.func30, Tryz.ntmps30
          go_wp2_with fail
          refine HD.out.mono ?_
          rintro e w2 ⟨rfl, hb2⟩
          have HB2 : Hid (Below w.heap.size w w2) := hb2
          clear hb2
          go_wp2_with fail
          refine (HH.out _ HB2.out).mono ?_
          rintro e w3 ⟨rfl, hb3⟩
          have HB3 : Hid (Below w.heap.size w w3) := bel_trans HB2.out hb3
          clear hb3
          go_wp2_with fail
          refine (HR.out _ HB3.out).mono ?_
          rintro e w4 ⟨rfl, hb4⟩
          have HB4 : Hid (Below w.heap.size w w4) := bel_trans HB3.out hb4
          have k := HC.out _ HB4.out
          clear hb4
          go_wp2
          go_ret
          exact ⟨rfl, HB4.out⟩

/-- What is decided. -/
def decideV (m : List UInt8) (fs : List Fd.Fl) (s : St) (now : Int) : Int := decideG (matchV fs s) (unmodV fs s now) (noneV m fs s) (modV m fs s now)
theorem Decide_any (m : List UInt8) (fv : Value) (fs : List Fd.Fl) (s : St) (now : Int) (w : World) (hrd : Fd.RdF fv fs w) (hsum : Fd.sumF fs ≤ 1048576) (hml : Fd.ML w) (hnow : Bs.I64 now) (tb : Bs.Tb w) :
    Calls Tryz.prog 6 #[.string (str m), fv, .agg #[.bool s.th, .bool s.own.1, .string (str s.own.2), .bool s.tg, .int .i64 s.tm, .bool s.td], .int .i64 now] w fun e w' => e = .returned (.int .i64 (decideV m fs s now)) ∧ Below w.heap.size w w' :=
  Decide_gen m fv fs s now _ _ w hrd hsum hml (fun g W hb h => unmodified_any h hnow (tb.bel hb)) (fun g W hb h => modified_any h hnow (tb.bel hb))

end Tt
end Go.Proofs.YtjngpafokkjkdaaGreatDoor

/-
  Plain: other fields, and the case of names, have no part in what is decided.
-/
set_option linter.unusedVariables false
set_option linter.unusedSimpArgs false
set_option maxRecDepth 100000
namespace Go.Proofs.YtjngpafokkjkdaaGreatDoor
namespace Tt
open Oc

def four : List (List UInt8) := [sMatch, sNone, sUnmod, sMod]
def mineB (n : List UInt8) : Bool := four.any fun s => decide (lower n = lower s)
def fewF (fs : List Fd.Fl) : List Fd.Fl := (fs.filter fun p => mineB p.1).map fun p => (lower p.1, p.2)

theorem lowB_idem (c : UInt8) : lowB (lowB c) = lowB c := by
  have h : ∀ n : Nat, n < 256 → lowB (lowB (UInt8.ofNat n)) = lowB (UInt8.ofNat n) := by decide +kernel
  have := h c.toNat c.toNat_lt
  rwa [UInt8.ofNat_toNat] at this
theorem lower_idem (l : List UInt8) : lower (lower l) = lower l := by
  unfold lower; rw [List.map_map]; exact List.map_congr_left fun c _ => lowB_idem c
theorem mine_of {s n : List UInt8} (hs : s ∈ four) (h : lower n = lower s) : mineB n = true := by
  unfold mineB
  rw [List.any_eq_true]
  exact ⟨s, hs, decide_eq_true h⟩
theorem vals_few (s : List UInt8) (hs : s ∈ four) (fs : List Fd.Fl) : Fd.vals s (fewF fs) = Fd.vals s fs := by
  unfold Fd.vals fewF
  induction fs with
  | nil => rfl
  | cons p t ih =>
    cases hm : mineB p.1 with
    | true =>
      rw [List.filter_cons_of_pos (by exact hm), List.map_cons]
      have e : Fd.alike s (lower p.1, p.2) = Fd.alike s p := by unfold Fd.alike; rw [lower_idem]
      cases ha : Fd.alike s p with
      | true =>
        rw [List.filter_cons_of_pos (by rw [e]; exact ha), List.filter_cons_of_pos (by exact ha), List.map_cons, List.map_cons, ih]
      | false =>
        rw [List.filter_cons_of_neg (by rw [e, ha]; decide), List.filter_cons_of_neg (by rw [ha]; decide), ih]
    | false =>
      have ha : Fd.alike s p = false := by
        cases ha : Fd.alike s p with
        | false => rfl
        | true =>
          have := mine_of hs (of_decide_eq_true ha)
          rw [hm] at this
          cases this
      rw [List.filter_cons_of_neg (by rw [hm]; decide), List.filter_cons_of_neg (by rw [ha]; decide), ih]
theorem has_vals (s : List UInt8) (fs : List Fd.Fl) : hasF s fs = decide (Fd.vals s fs ≠ []) := by
  unfold hasF Fd.findF Fd.vals
  induction fs with
  | nil => rfl
  | cons p t ih =>
    cases ha : Fd.alike s p with
    | true => rw [List.find?_cons_of_pos ha, List.filter_cons_of_pos ha]; rfl
    | false => rw [List.find?_cons_of_neg (by rw [ha]; decide), List.filter_cons_of_neg (by rw [ha]; decide)]; exact ih
theorem has_few (s : List UInt8) (hs : s ∈ four) (fs : List Fd.Fl) : hasF s (fewF fs) = hasF s fs := by
  rw [has_vals, has_vals, vals_few s hs]
theorem decide_few (m : List UInt8) (fs : List Fd.Fl) (s : St) (now : Int) : decideV m (fewF fs) s now = decideV m fs s now := by
  have h1 := vals_few sMatch (by decide) fs
  have h2 := vals_few sNone (by decide) fs
  have h3 := vals_few sUnmod (by decide) fs
  have h4 := vals_few sMod (by decide) fs
  have k1 := has_few sMatch (by decide) fs
  have k2 := has_few sNone (by decide) fs
  unfold decideV matchV unmodV noneV modV meetsF dateV
  rw [h1, h2, h3, h4, k1, k2]
theorem decide_three (m : List UInt8) (fs : List Fd.Fl) (s : St) (now : Int) : decideV m fs s now = 0 ∨ decideV m fs s now = 412 ∨ (decideV m fs s now = 304 ∧ readsM m = true) := by
  have a : matchV fs s = 0 ∨ matchV fs s = 412 := by unfold matchV; split; exact .inr rfl; exact .inl rfl
  have u : unmodV fs s now = 0 ∨ unmodV fs s now = 412 := by unfold unmodV; split; exact .inr rfl; exact .inl rfl
  have b : noneV m fs s = 0 ∨ noneV m fs s = 412 ∨ (noneV m fs s = 304 ∧ readsM m = true) := by
    unfold noneV
    split
    · split
      · rename_i h; exact .inr (.inr ⟨rfl, h⟩)
      · exact .inr (.inl rfl)
    · exact .inl rfl
  have d : modV m fs s now = 0 ∨ (modV m fs s now = 304 ∧ readsM m = true) := by
    unfold modV
    split
    · rename_i h
      refine .inr ⟨rfl, ?_⟩
      rw [Bool.and_eq_true, Bool.and_eq_true, Bool.and_eq_true] at h
      exact h.2.2.1
    · exact .inl rfl
  unfold decideV decideG
  rcases a with a | a
  · rw [a, if_neg (fun h => h rfl)]
    rcases u with u | u
    · rw [u, if_neg (fun h => h rfl)]
      rcases b with b | b | b
      · rw [b, if_neg (fun h => h rfl)]
        rcases d with d | d
        · exact .inl d
        · exact .inr (.inr d)
      · rw [b, if_pos (by decide)]; exact .inr (.inl rfl)
      · rw [b.1, if_pos (by decide)]; exact .inr (.inr ⟨rfl, b.2⟩)
    · rw [u, if_pos (by decide)]; exact .inr (.inl rfl)
  · rw [a, if_pos (by decide)]; exact .inr (.inl rfl)
theorem decide_nil (m : List UInt8) (s : St) (now : Int) : decideV m [] s now = 0 := by
  have e1 : (listT []).1 = [] := by decide +kernel
  have e2 : (listT []).2.1 = false := by decide +kernel
  have v : ∀ n, Fd.vals n [] = [] := fun n => rfl
  have h : ∀ n, hasF n [] = false := fun n => rfl
  have j : joinF [] = [] := by decide +kernel
  have dt : ∀ n, (dateV n [] s now).2 = false := by
    intro n
    unfold dateV
    rw [v]
    rfl
  unfold decideV matchV unmodV noneV modV meetsF meetsV
  rw [dt sUnmod, dt sMod, v sMatch, v sNone, h sMatch, j, e1, e2]
  simp [decideG]
theorem few_sum (fs : List Fd.Fl) : Fd.sumF (fewF fs) ≤ Fd.sumF fs := by
  unfold Fd.sumF fewF
  induction fs with
  | nil => exact Nat.le_refl _
  | cons p t ih =>
    cases hm : mineB p.1 with
    | true =>
      rw [List.filter_cons_of_pos (by exact hm)]
      simp only [List.map_cons, List.sum_cons]
      have e : Fd.szF (lower p.1, p.2) = Fd.szF p := by simp [Fd.szF, lower]
      rw [e]
      omega
    | false =>
      rw [List.filter_cons_of_neg (by rw [hm]; decide)]
      simp only [List.map_cons, List.sum_cons]
      omega
theorem few_take (fs : List Fd.Fl) (k : Nat) (h : k < fs.length) : fewF (fs.take (k + 1)) = fewF (fs.take k) ++ (if mineB (Fd.nth fs k).1 then [(lower (Fd.nth fs k).1, (Fd.nth fs k).2)] else []) := by
  unfold fewF Fd.nth
  rw [List.take_succ_eq_append_getElem h, List.filter_append, List.map_append, List.getD_eq_getElem?_getD, List.getElem?_eq_getElem h]
  congr 1
  cases hm : mineB fs[k].1 with
  | true => rw [List.filter_cons_of_pos (by exact hm)]; simp [hm]
  | false => rw [List.filter_cons_of_neg (by rw [hm]; decide)]; simp [hm]

end Tt
end Go.Proofs.YtjngpafokkjkdaaGreatDoor

/-
  Plain: the document's way of deciding is the program's; If-Range, both ways.
-/
set_option linter.unusedVariables false
set_option linter.unusedSimpArgs false
set_option maxRecDepth 100000
namespace Go.Proofs.YtjngpafokkjkdaaGreatDoor
namespace Tt
open Oc

def lkX (strong : Bool) (t u : Tg1) : Bool := strong && lkS t u || !strong && lkA t u
def metV (strong : Bool) (v : List UInt8) (s : St) : Bool := if (listT v).2.1 then s.th else (listT v).1.any fun t => s.th && (s.tg && lkX strong t s.own)
def rdateV (n : List UInt8) (fs : List Fd.Fl) (now : Int) : Int × Bool :=
  if (Fd.vals n fs).length = 1 then ((Bs.parseS ((Fd.vals n fs).getD 0 []) now).1, (Bs.parseS ((Fd.vals n fs).getD 0 []) now).2.2.1 == 0) else (0, false)
/-- What the document decides of the second pair of fields. -/
def rendV (m : List UInt8) (fs : List Fd.Fl) (s : St) (now : Int) : Int :=
  if 0 < (Fd.vals sNone fs).length then (if metV false (joinF (Fd.vals sNone fs)) s = true then (if readsM m = true then 304 else 412) else 0)
  else if (readsM m && ((rdateV sMod fs now).2 && (s.th && (s.td && decide (s.tm ≤ (rdateV sMod fs now).1))))) = true then 304 else 0
def rdecV (m : List UInt8) (fs : List Fd.Fl) (s : St) (now : Int) : Int :=
  if 0 < (Fd.vals sMatch fs).length then (if metV true (joinF (Fd.vals sMatch fs)) s = false then 412 else rendV m fs s now)
  else if ((rdateV sUnmod fs now).2 && (s.th && (s.td && decide ((rdateV sUnmod fs now).1 < s.tm)))) = true then 412 else rendV m fs s now

theorem any_and (a : Bool) (l : List Tg1) (f : Tg1 → Bool) : (l.any fun t => a && f t) = (a && l.any f) := by
  induction l with
  | nil => simp
  | cons x t ih => simp only [List.any_cons, ih]; cases a <;> simp
theorem lkX_t : lkX true = lkS := by funext t u; simp [lkX]
theorem lkX_f : lkX false = lkA := by funext t u; simp [lkX]
theorem star_nil (v : List UInt8) (h : (listT v).2.1 = true) : True := trivial
theorem met_S (v : List UInt8) (s : St) : metV true v s = meetsV lkS v s := by
  unfold metV meetsV
  rw [lkX_t, any_and, any_and]
  cases (listT v).2.1 <;> cases s.th <;> cases s.tg <;> simp
theorem met_A (v : List UInt8) (s : St) : metV false v s = meetsV lkA v s := by
  unfold metV meetsV
  rw [lkX_f, any_and, any_and]
  cases (listT v).2.1 <;> cases s.th <;> cases s.tg <;> simp
theorem date_r (n : List UInt8) (fs : List Fd.Fl) (s : St) (now : Int) : dateV n fs s now = if s.th = true ∧ s.td = true then rdateV n fs now else (0, false) := by
  unfold dateV rdateV
  by_cases h1 : (Fd.vals n fs).length = 1
  · by_cases h2 : s.th = true ∧ s.td = true
    · rw [if_pos ⟨h1, h2⟩, if_pos h2, if_pos h1]
    · rw [if_neg (fun h => h2 h.2), if_neg h2]
  · rw [if_neg (fun h => h1 h.1)]
    rw [if_neg h1]
    split <;> rfl
theorem has_len (n : List UInt8) (fs : List Fd.Fl) : hasF n fs = decide (0 < (Fd.vals n fs).length) := by
  rw [has_vals]
  cases Fd.vals n fs with
  | nil => rfl
  | cons a t => simp
theorem meets_nil (lk : Tg1 → Tg1 → Bool) (n : List UInt8) (fs : List Fd.Fl) (s : St) (h : ¬ 0 < (Fd.vals n fs).length) : meetsF lk n fs s = false := by
  have hv : Fd.vals n fs = [] := List.length_eq_zero_iff.1 (by omega)
  have e1 : (listT []).1 = [] := by decide +kernel
  have e2 : (listT []).2.1 = false := by decide +kernel
  have j : joinF [] = [] := by decide +kernel
  unfold meetsF meetsV
  rw [hv, j, e1, e2]
  simp
theorem rend_eq (m : List UInt8) (fs : List Fd.Fl) (s : St) (now : Int) : rendV m fs s now = if noneV m fs s ≠ 0 then noneV m fs s else modV m fs s now := by
  unfold rendV noneV modV
  rw [met_A, has_len, date_r]
  unfold meetsF
  by_cases h : 0 < (Fd.vals sNone fs).length
  · rw [if_pos h]
    cases hm : meetsV lkA (joinF (Fd.vals sNone fs)) s with
    | true => cases readsM m <;> simp
    | false => simp [h]
  · rw [if_neg h]
    have := meets_nil lkA sNone fs s h
    unfold meetsF at this
    rw [this]
    simp only [h, decide_false]
    cases readsM m <;> cases s.th <;> cases s.td <;> simp
theorem rdec_eq (m : List UInt8) (fs : List Fd.Fl) (s : St) (now : Int) : rdecV m fs s now = decideV m fs s now := by
  unfold rdecV decideV decideG
  rw [rend_eq]
  unfold matchV unmodV
  rw [met_S, has_len, date_r]
  unfold meetsF
  by_cases h : 0 < (Fd.vals sMatch fs).length
  · rw [if_pos h]
    simp only [h, decide_true]
    cases meetsV lkS (joinF (Fd.vals sMatch fs)) s <;> simp
  · rw [if_neg h]
    simp only [h, decide_false]
    by_cases hx : ((rdateV sUnmod fs now).2 && (s.th && (s.td && decide ((rdateV sUnmod fs now).1 < s.tm)))) = true
    · rw [if_pos hx]
      cases h1 : s.th <;> cases h2 : s.td <;> rw [h1, h2] at hx <;> simp at hx ⊢
      rw [if_pos hx, if_pos hx]
    · rw [if_neg hx]
      cases h1 : s.th <;> cases h2 : s.td <;> rw [h1, h2] at hx <;> simp at hx ⊢
      have hn : ¬ ((rdateV sUnmod fs now).2 = true ∧ (rdateV sUnmod fs now).1 < s.tm) := fun h => by have := hx h.1; omega
      simp [hn]
      exact fun a b => absurd (And.intro a b) hn

/-- If-Range. -/
def rngV (fs : List Fd.Fl) (s : St) (now : Int) : Bool :=
  if (Fd.vals sRange fs).length = 0 then true
  else if 1 < (Fd.vals sRange fs).length ∨ s.th = false then false
  else if (parseT (trim ((Fd.vals sRange fs).getD 0 []))).2.2 = 0 then (s.tg && lkS (parseT (trim ((Fd.vals sRange fs).getD 0 []))).1 s.own)
  else ((dateV sRange fs s now).2 && decide (s.tm = (dateV sRange fs s now).1))

end Tt
end Go.Proofs.YtjngpafokkjkdaaGreatDoor
