/-
  tag: the date of a name, whatever there is; the steps by dates; Decide of anything.
-/
import Derived.Test.YtjngpafokkjkdaaGreatDoorTDt
import Derived.Test.YtjngpafokkjkdaaGreatDoorTDh
set_option linter.unusedVariables false
set_option linter.unusedSimpArgs false
namespace Go.Proofs.YtjngpafokkjkdaaGreatDoor
open Go.RowKit Go.Shelf
namespace Tt
open Oc Tg

/-- The date of a name, and whether it can be held against the state's time. -/
def dateV (n : List UInt8) (fs : List Fd.Fl) (s : St) (now : Int) : Int × Bool :=
  if (Fd.vals n fs).length = 1 ∧ s.th = true ∧ s.td = true then ((Bs.parseS ((Fd.vals n fs).getD 0 []) now).1, (Bs.parseS ((Fd.vals n fs).getD 0 []) now).2.2.1 == 0) else (0, false)
theorem date_any (n : List UInt8) (hn : n.length ≤ 100) {g : Nat} {m : List UInt8} {fv : Value} {fs : List Fd.Fl} {s : St} {now : Int} {w : World} (h : Ask w g m fv fs s now) (hnow : Bs.I64 now) (tb : Bs.Tb w) :
    Calls Tryz.prog 21 #[.pointer (some ⟨g, 0, none⟩), .string (str n)] w fun e w' => e = .returned (.tuple #[.int .i64 (dateV n fs s now).1, .bool (dateV n fs s now).2]) ∧ Below w.heap.size w w' := by
  unfold dateV
  by_cases hc : (Fd.vals n fs).length = 1 ∧ s.th = true ∧ s.td = true
  · rw [if_pos hc]
    obtain ⟨v, hv⟩ := List.length_eq_one_iff.1 hc.1
    have hd := date_yes n hn h v hv hc.2.1 hc.2.2 hnow tb
    rw [hv]
    exact hd
  · rw [if_neg hc]
    refine date_no n hn h ?_
    by_cases h1 : (Fd.vals n fs).length = 1
    · by_cases h2 : s.th = true
      · have h3 : ¬ s.td = true := fun h3 => hc ⟨h1, h2, h3⟩
        exact .inr (.inr (by simpa using h3))
      · exact .inr (.inl (by simpa using h2))
    · exact .inl h1
def unmodV (fs : List Fd.Fl) (s : St) (now : Int) : Int := if ((dateV sUnmod fs s now).2 && (!hasF sMatch fs && decide ((dateV sUnmod fs s now).1 < s.tm))) = true then 412 else 0
def modV (m : List UInt8) (fs : List Fd.Fl) (s : St) (now : Int) : Int := if ((dateV sMod fs s now).2 && (!hasF sNone fs && (readsM m && decide (s.tm ≤ (dateV sMod fs s now).1)))) = true then 304 else 0

set_option maxRecDepth 100000 in
set_option maxHeartbeats 2000000 in
theorem unmodified_any {g : Nat} {m : List UInt8} {fv : Value} {fs : List Fd.Fl} {s : St} {now : Int} {w : World} (h : Ask w g m fv fs s now) (hnow : Bs.I64 now) (tb : Bs.Tb w) :
    Calls Tryz.prog 28 #[.pointer (some ⟨g, 0, none⟩)] w fun e w' => e = .returned (.int .i64 (unmodV fs s now)) ∧ Below w.heap.size w w' := by
  have HD : Hid (Calls Tryz.prog 21 #[.pointer (some ⟨g, 0, none⟩), .string ⟨#[73, 102, 45, 85, 110, 109, 111, 100, 105, 102, 105, 101, 100, 45, 83, 105, 110, 99, 101]⟩] w fun e w' => e = .returned (.tuple #[.int .i64 (dateV sUnmod fs s now).1, .bool (dateV sUnmod fs s now).2]) ∧ Below w.heap.size w w') := date_any sUnmod (by decide) h hnow tb
  have HH : Hid (∀ W, Below w.heap.size w W → Calls Tryz.prog 43 #[.pointer (some ⟨g, 0, none⟩), .string ⟨#[73, 102, 45, 77, 97, 116, 99, 104]⟩] W fun e w' => e = .returned (.bool (hasF sMatch fs)) ∧ Below W.heap.size W w') := fun W hb => has_any sMatch (by decide) (h.below hb)
  have HC : Hid (∀ W, Below w.heap.size w W → W.cell? ⟨g, 6, none⟩ = some (.int .i64 s.tm)) := fun W hb => (h.ab.below hb).c6
  unfold unmodV
  clear h tb
  generalize dateV sUnmod fs s now = D at *
  obtain ⟨d, ok⟩ := D
  dsimp only at *
  generalize hasF sMatch fs = hs at *
  generalize s.tm = tm at *
  cases ok with
  | false =>
    rw [Bool.false_and, if_neg (by simp)]
    go_enter Tryz.func28, Tryz.ntmps28
    go_wp2_with fail
    refine HD.out.mono ?_
    rintro e w2 ⟨rfl, hb2⟩
    go_wp2
    go_ret
    exact ⟨rfl, hb2⟩
  | true =>
    rw [Bool.true_and]
    cases hs with
    | true =>
      rw [Bool.not_true, Bool.false_and, if_neg (by simp)]
      go_enter Tryz.func28, Tryz.ntmps28
      go_wp2_with fail
      refine HD.out.mono ?_
      rintro e w2 ⟨rfl, hb2⟩
      have HB2 : Hid (Below w.heap.size w w2) := hb2
      clear hb2
      go_wp2_with fail
      refine (HH.out _ HB2.out).mono ?_
      rintro e w3 ⟨rfl, hb3⟩
      go_wp2
      go_ret
      exact ⟨rfl, bel_trans HB2.out hb3⟩
    | false =>
      rw [Bool.not_false, Bool.true_and]
      by_cases hd : d < tm
      · rw [if_pos (by simpa using hd)]
        go_enter Tryz.func28, Tryz.ntmps28
        go_wp2_with fail
        refine HD.out.mono ?_
        rintro e w2 ⟨rfl, hb2⟩
        have HB2 : Hid (Below w.heap.size w w2) := hb2
        clear hb2
        go_wp2_with fail
        refine (HH.out _ HB2.out).mono ?_
        rintro e w3 ⟨rfl, hb3⟩
        have HB3 : Hid (Below w.heap.size w w3) := bel_trans HB2.out hb3
        have k := HC.out _ HB3.out
        clear hb3
        go_wp2
        go_ret
        exact ⟨rfl, HB3.out⟩
      · rw [if_neg (by simpa using hd)]
        go_enter Tryz.func28, Tryz.ntmps28
        go_wp2_with fail
        refine HD.out.mono ?_
        rintro e w2 ⟨rfl, hb2⟩
        have HB2 : Hid (Below w.heap.size w w2) := hb2
        clear hb2
        go_wp2_with fail
        refine (HH.out _ HB2.out).mono ?_
        rintro e w3 ⟨rfl, hb3⟩
        have HB3 : Hid (Below w.heap.size w w3) := bel_trans HB2.out hb3
        have k := HC.out _ HB3.out
        clear hb3
        go_wp2
        go_ret
        exact ⟨rfl, HB3.out⟩

set_option maxRecDepth 100000 in
set_option maxHeartbeats 2000000 in
theorem modified_any {g : Nat} {m : List UInt8} {fv : Value} {fs : List Fd.Fl} {s : St} {now : Int} {w : World} (h : Ask w g m fv fs s now) (hnow : Bs.I64 now) (tb : Bs.Tb w) :
    Calls Tryz.prog 30 #[.pointer (some ⟨g, 0, none⟩)] w fun e w' => e = .returned (.int .i64 (modV m fs s now)) ∧ Below w.heap.size w w' := by
  have HD : Hid (Calls Tryz.prog 21 #[.pointer (some ⟨g, 0, none⟩), .string ⟨#[73, 102, 45, 77, 111, 100, 105, 102, 105, 101, 100, 45, 83, 105, 110, 99, 101]⟩] w fun e w' => e = .returned (.tuple #[.int .i64 (dateV sMod fs s now).1, .bool (dateV sMod fs s now).2]) ∧ Below w.heap.size w w') := date_any sMod (by decide) h hnow tb
  have HH : Hid (∀ W, Below w.heap.size w W → Calls Tryz.prog 43 #[.pointer (some ⟨g, 0, none⟩), .string ⟨#[73, 102, 45, 78, 111, 110, 101, 45, 77, 97, 116, 99, 104]⟩] W fun e w' => e = .returned (.bool (hasF sNone fs)) ∧ Below W.heap.size W w') := fun W hb => has_any sNone (by decide) (h.below hb)
  have HR : Hid (∀ W, Below w.heap.size w W → Calls Tryz.prog 45 #[.pointer (some ⟨g, 0, none⟩)] W fun e w' => e = .returned (.bool (readsM m)) ∧ Below W.heap.size W w') := fun W hb => reads_any (h.below hb)
  have HC : Hid (∀ W, Below w.heap.size w W → W.cell? ⟨g, 6, none⟩ = some (.int .i64 s.tm)) := fun W hb => (h.ab.below hb).c6
  unfold modV
  clear h tb
  generalize dateV sMod fs s now = D at *
  obtain ⟨d, ok⟩ := D
  dsimp only at *
  generalize hasF sNone fs = hs at *
  generalize readsM m = rd at *
  generalize s.tm = tm at *
  cases ok with
  | false =>
    rw [Bool.false_and, if_neg (by simp)]
    go_enter Tryz.func30, Tryz.ntmps30
    go_wp2_with fail
    refine HD.out.mono ?_
    rintro e w2 ⟨rfl, hb2⟩
    go_wp2
    go_ret
    exact ⟨rfl, hb2⟩
  | true =>
    rw [Bool.true_and]
    cases hs with
    | true =>
      rw [Bool.not_true, Bool.false_and, if_neg (by simp)]
      go_enter Tryz.func30, Tryz.ntmps30
      go_wp2_with fail
      refine HD.out.mono ?_
      rintro e w2 ⟨rfl, hb2⟩
      have HB2 : Hid (Below w.heap.size w w2) := hb2
      clear hb2
      go_wp2_with fail
      refine (HH.out _ HB2.out).mono ?_
      rintro e w3 ⟨rfl, hb3⟩
      go_wp2
      go_ret
      exact ⟨rfl, bel_trans HB2.out hb3⟩
    | false =>
      rw [Bool.not_false, Bool.true_and]
      cases rd with
      | false =>
        rw [Bool.false_and, if_neg (by simp)]
        go_enter Tryz.func30, Tryz.ntmps30
        go_wp2_with fail
        refine HD.out.mono ?_
        rintro e w2 ⟨rfl, hb2⟩
        have HB2 : Hid (Below w.heap.size w w2) := hb2
        clear hb2
        go_wp2_with fail
        refine (HH.out _ HB2.out).mono ?_
        rintro e w3 ⟨rfl, hb3⟩
        have HB3 : Hid (Below w.heap.size w w3) := bel_trans HB2.out hb3
        clear hb3
        go_wp2_with fail
        refine (HR.out _ HB3.out).mono ?_
        rintro e w4 ⟨rfl, hb4⟩
        go_wp2
        go_ret
        exact ⟨rfl, bel_trans HB3.out hb4⟩
      | true =>
        rw [Bool.true_and]
        by_cases hd : tm ≤ d
        · rw [if_pos (by simpa using hd)]
          go_enter Tryz.func30, Tryz.ntmps30
          go_wp2_with fail
          refine HD.out.mono ?_
          rintro e w2 ⟨rfl, hb2⟩
          have HB2 : Hid (Below w.heap.size w w2) := hb2
          clear hb2
          go_wp2_with fail
          refine (HH.out _ HB2.out).mono ?_
          rintro e w3 ⟨rfl, hb3⟩
          have HB3 : Hid (Below w.heap.size w w3) := bel_trans HB2.out hb3
          clear hb3
          go_wp2_with fail
          refine (HR.out _ HB3.out).mono ?_
          rintro e w4 ⟨rfl, hb4⟩
          have HB4 : Hid (Below w.heap.size w w4) := bel_trans HB3.out hb4
          have k := HC.out _ HB4.out
          clear hb4
          go_wp2
          go_ret
          exact ⟨rfl, HB4.out⟩
        · rw [if_neg (by simpa using hd)]
          go_enter Tryz.func30, Tryz.ntmps30
          go_wp2_with fail
          refine HD.out.mono ?_
          rintro e w2 ⟨rfl, hb2⟩
          have HB2 : Hid (Below w.heap.size w w2) := hb2
          clear hb2
          go_wp2_with fail
          refine (HH.out _ HB2.out).mono ?_
          rintro e w3 ⟨rfl, hb3⟩
          have HB3 : Hid (Below w.heap.size w w3) := bel_trans HB2.out hb3
          clear hb3
          go_wp2_with fail
          refine (HR.out _ HB3.out).mono ?_
          rintro e w4 ⟨rfl, hb4⟩
          have HB4 : Hid (Below w.heap.size w w4) := bel_trans HB3.out hb4
          have k := HC.out _ HB4.out
          clear hb4
          go_wp2
          go_ret
          exact ⟨rfl, HB4.out⟩

/-- What is decided. -/
def decideV (m : List UInt8) (fs : List Fd.Fl) (s : St) (now : Int) : Int := decideG (matchV fs s) (unmodV fs s now) (noneV m fs s) (modV m fs s now)
theorem Decide_any (m : List UInt8) (fv : Value) (fs : List Fd.Fl) (s : St) (now : Int) (w : World) (hrd : Fd.RdF fv fs w) (hsum : Fd.sumF fs ≤ 1048576) (hml : Fd.ML w) (hnow : Bs.I64 now) (tb : Bs.Tb w) :
    Calls Tryz.prog 6 #[.string (str m), fv, .agg #[.bool s.th, .bool s.own.1, .string (str s.own.2), .bool s.tg, .int .i64 s.tm, .bool s.td], .int .i64 now] w fun e w' => e = .returned (.int .i64 (decideV m fs s now)) ∧ Below w.heap.size w w' :=
  Decide_gen m fv fs s now _ _ w hrd hsum hml (fun g W hb h => unmodified_any h hnow (tb.bel hb)) (fun g W hb h => modified_any h hnow (tb.bel hb))

end Tt
end Go.Proofs.YtjngpafokkjkdaaGreatDoor
