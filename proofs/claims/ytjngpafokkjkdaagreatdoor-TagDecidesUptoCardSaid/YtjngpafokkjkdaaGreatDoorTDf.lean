/-
  tag: the steps, Decide; the law's awake.
-/
import Derived.Test.YtjngpafokkjkdaaGreatDoorTDe
import Derived.Laws.EntriesVeiled
set_option linter.unusedVariables false
set_option linter.unusedSimpArgs false
namespace Go.Proofs.YtjngpafokkjkdaaGreatDoor
open Go.RowKit Go.Shelf
namespace Tt
open Oc Tg

/-- A world from which these lie at each later one. -/
def AskAt (B : Nat) (w : World) (g : Nat) (m : List UInt8) (fv : Value) (fs : List Fd.Fl) (s : St) (now : Int) : Prop := Ask w g m fv fs s now
def matchV (fs : List Fd.Fl) (s : St) : Int := if hasF sMatch fs = true ∧ meetsF lkS sMatch fs s = false then 412 else 0
def noneV (m : List UInt8) (fs : List Fd.Fl) (s : St) : Int := if meetsF lkA sNone fs s = true then (if readsM m = true then 304 else 412) else 0

set_option maxRecDepth 100000 in
set_option maxHeartbeats 1000000 in
theorem match_any {g : Nat} {m : List UInt8} {fv : Value} {fs : List Fd.Fl} {s : St} {now : Int} {w : World} (h : Ask w g m fv fs s now) :
    Calls Tryz.prog 27 #[.pointer (some ⟨g, 0, none⟩)] w fun e w' => e = .returned (.int .i64 (matchV fs s)) ∧ Below w.heap.size w w' := by
  have HH : Hid (Calls Tryz.prog 43 #[.pointer (some ⟨g, 0, none⟩), .string ⟨#[73, 102, 45, 77, 97, 116, 99, 104]⟩] w fun e w' => e = .returned (.bool (hasF sMatch fs)) ∧ Below w.heap.size w w') := has_any sMatch (by decide) h
  have HM : Hid (∀ W, Below w.heap.size w W → Calls Tryz.prog 44 #[.pointer (some ⟨g, 0, none⟩), .string ⟨#[73, 102, 45, 77, 97, 116, 99, 104]⟩, .func (.func 20) #[] #[]] W fun e w' => e = .returned (.bool (meetsF lkS sMatch fs s)) ∧ Below W.heap.size W w') := fun W hb => meets_S sMatch (by decide) (h.below hb)
  unfold matchV
  clear h
  generalize hasF sMatch fs = a at *
  generalize meetsF lkS sMatch fs s = b at *
  cases a with
  | false =>
    rw [if_neg (by simp)]
    go_enter Tryz.func27, Tryz.ntmps27
    go_wp2_with fail
    refine HH.out.mono ?_
    rintro e w2 ⟨rfl, hb2⟩
    go_wp2
    go_ret
    exact ⟨rfl, hb2⟩
  | true =>
    cases b with
    | true =>
      go_enter Tryz.func27, Tryz.ntmps27
      go_wp2_with fail
      refine HH.out.mono ?_
      rintro e w2 ⟨rfl, hb2⟩
      have HB2 : Hid (Below w.heap.size w w2) := hb2
      clear hb2
      go_wp2_with fail
      refine (HM.out _ HB2.out).mono ?_
      rintro e w3 ⟨rfl, hb3⟩
      go_wp2
      go_ret
      exact ⟨ret_int (by simp), bel_trans HB2.out hb3⟩
    | false =>
      go_enter Tryz.func27, Tryz.ntmps27
      go_wp2_with fail
      refine HH.out.mono ?_
      rintro e w2 ⟨rfl, hb2⟩
      have HB2 : Hid (Below w.heap.size w w2) := hb2
      clear hb2
      go_wp2_with fail
      refine (HM.out _ HB2.out).mono ?_
      rintro e w3 ⟨rfl, hb3⟩
      go_wp2
      go_ret
      exact ⟨ret_int (by simp), bel_trans HB2.out hb3⟩

set_option maxRecDepth 100000 in
set_option maxHeartbeats 1000000 in
theorem noneMatch_any {g : Nat} {m : List UInt8} {fv : Value} {fs : List Fd.Fl} {s : St} {now : Int} {w : World} (h : Ask w g m fv fs s now) :
    Calls Tryz.prog 29 #[.pointer (some ⟨g, 0, none⟩)] w fun e w' => e = .returned (.int .i64 (noneV m fs s)) ∧ Below w.heap.size w w' := by
  have HM : Hid (Calls Tryz.prog 44 #[.pointer (some ⟨g, 0, none⟩), .string ⟨#[73, 102, 45, 78, 111, 110, 101, 45, 77, 97, 116, 99, 104]⟩, .func (.func 37) #[] #[]] w fun e w' => e = .returned (.bool (meetsF lkA sNone fs s)) ∧ Below w.heap.size w w') := meets_A sNone (by decide) h
  have HR : Hid (∀ W, Below w.heap.size w W → Calls Tryz.prog 45 #[.pointer (some ⟨g, 0, none⟩)] W fun e w' => e = .returned (.bool (readsM m)) ∧ Below W.heap.size W w') := fun W hb => reads_any (h.below hb)
  unfold noneV
  clear h
  generalize meetsF lkA sNone fs s = a at *
  generalize readsM m = b at *
  cases a with
  | false =>
    go_enter Tryz.func29, Tryz.ntmps29
    go_wp2_with fail
    refine HM.out.mono ?_
    rintro e w2 ⟨rfl, hb2⟩
    go_wp2
    go_ret
    exact ⟨ret_int (by simp), hb2⟩
  | true =>
    cases b with
    | true =>
      go_enter Tryz.func29, Tryz.ntmps29
      go_wp2_with fail
      refine HM.out.mono ?_
      rintro e w2 ⟨rfl, hb2⟩
      have HB2 : Hid (Below w.heap.size w w2) := hb2
      clear hb2
      go_wp2_with fail
      refine (HR.out _ HB2.out).mono ?_
      rintro e w3 ⟨rfl, hb3⟩
      go_wp2
      go_ret
      exact ⟨ret_int (by simp), bel_trans HB2.out hb3⟩
    | false =>
      go_enter Tryz.func29, Tryz.ntmps29
      go_wp2_with fail
      refine HM.out.mono ?_
      rintro e w2 ⟨rfl, hb2⟩
      have HB2 : Hid (Below w.heap.size w w2) := hb2
      clear hb2
      go_wp2_with fail
      refine (HR.out _ HB2.out).mono ?_
      rintro e w3 ⟨rfl, hb3⟩
      go_wp2
      go_ret
      exact ⟨ret_int (by simp), bel_trans HB2.out hb3⟩

set_option maxRecDepth 100000 in
set_option maxHeartbeats 1000000 in
theorem date_no (n : List UInt8) (hn : n.length ≤ 100) {g : Nat} {m : List UInt8} {fv : Value} {fs : List Fd.Fl} {s : St} {now : Int} {w : World} (h : Ask w g m fv fs s now) (hno : (Fd.vals n fs).length ≠ 1 ∨ s.th = false ∨ s.td = false) :
    Calls Tryz.prog 21 #[.pointer (some ⟨g, 0, none⟩), .string (str n)] w fun e w' => e = .returned (.tuple #[.int .i64 0, .bool false]) ∧ Below w.heap.size w w' := by
  have hlen := Fd.len_sumF fs
  have hsum := h.sum
  have HA : Hid (Calls _ _ _ _ _) := Fd.All_any fv fs n (by omega) ((Fd.each_sumF fs).mono hsum) (by omega) w h.rd
  have c1 := h.ab.c1
  have hvl : (Fd.vals n fs).length ≤ 16777216 := by
    have h1 := Fd.sumV_filter n fs
    omega
  have HC : Hid (∀ W, Below w.heap.size w W → W.cell? ⟨g, 2, none⟩ = some (.bool s.th) ∧ W.cell? ⟨g, 7, none⟩ = some (.bool s.td)) := fun W hb => ⟨(h.ab.below hb).c2, (h.ab.below hb).c7⟩
  clear h hsum hlen
  generalize Fd.vals n fs = V at *
  generalize str n = N at *
  obtain ⟨th, own, tg, tm, td⟩ := s
  dsimp only at *
  by_cases hl : V.length = 1
  · have hl2 : ((V.length : Int) != 1) = false := by simp; omega
    cases th with
    | false =>
      go_enter Tryz.func21, Tryz.ntmps21
      go_wp2_with fail
      refine HA.out.mono ?_
      rintro e w2 ⟨u, rfl, ho, hb2⟩
      obtain ⟨k1, k2⟩ := HC.out w2 hb2
      obtain ⟨ua, uc, rfl⟩ := ho.form
      have HB2 : Hid (Below w.heap.size w w2) := hb2
      clear hb2 ho
      go_wp2
      go_ret2
      exact ⟨rfl, HB2.out⟩
    | true =>
      cases td with
      | true => simp [hl] at hno
      | false =>
        go_enter Tryz.func21, Tryz.ntmps21
        go_wp2_with fail
        refine HA.out.mono ?_
        rintro e w2 ⟨u, rfl, ho, hb2⟩
        obtain ⟨k1, k2⟩ := HC.out w2 hb2
        obtain ⟨ua, uc, rfl⟩ := ho.form
        have HB2 : Hid (Below w.heap.size w w2) := hb2
        clear hb2 ho
        go_wp2
        go_ret2
        exact ⟨rfl, HB2.out⟩
  · have hl2 : ((V.length : Int) != 1) = true := by simp; omega
    go_enter Tryz.func21, Tryz.ntmps21
    go_wp2_with fail
    refine HA.out.mono ?_
    rintro e w2 ⟨u, rfl, ho, hb2⟩
    obtain ⟨ua, uc, rfl⟩ := ho.form
    have HB2 : Hid (Below w.heap.size w w2) := hb2
    clear hb2 ho
    go_wp2
    go_ret2
    exact ⟨rfl, HB2.out⟩

set_option maxRecDepth 100000 in
set_option maxHeartbeats 1000000 in
theorem unmodified_no {g : Nat} {m : List UInt8} {fv : Value} {fs : List Fd.Fl} {s : St} {now : Int} {w : World} (h : Ask w g m fv fs s now) (hno : (Fd.vals sUnmod fs).length ≠ 1 ∨ s.th = false ∨ s.td = false) :
    Calls Tryz.prog 28 #[.pointer (some ⟨g, 0, none⟩)] w fun e w' => e = .returned (.int .i64 0) ∧ Below w.heap.size w w' := by
  have HD : Hid (Calls Tryz.prog 21 #[.pointer (some ⟨g, 0, none⟩), .string ⟨#[73, 102, 45, 85, 110, 109, 111, 100, 105, 102, 105, 101, 100, 45, 83, 105, 110, 99, 101]⟩] w fun e w' => e = .returned (.tuple #[.int .i64 0, .bool false]) ∧ Below w.heap.size w w') := date_no sUnmod (by decide) h hno
  clear h hno
  go_enter Tryz.func28, Tryz.ntmps28
  go_wp2_with fail
  refine HD.out.mono ?_
  rintro e w2 ⟨rfl, hb2⟩
  go_wp2
  go_ret
  exact ⟨rfl, hb2⟩

set_option maxRecDepth 100000 in
set_option maxHeartbeats 1000000 in
theorem modified_no {g : Nat} {m : List UInt8} {fv : Value} {fs : List Fd.Fl} {s : St} {now : Int} {w : World} (h : Ask w g m fv fs s now) (hno : (Fd.vals sMod fs).length ≠ 1 ∨ s.th = false ∨ s.td = false) :
    Calls Tryz.prog 30 #[.pointer (some ⟨g, 0, none⟩)] w fun e w' => e = .returned (.int .i64 0) ∧ Below w.heap.size w w' := by
  have HD : Hid (Calls Tryz.prog 21 #[.pointer (some ⟨g, 0, none⟩), .string ⟨#[73, 102, 45, 77, 111, 100, 105, 102, 105, 101, 100, 45, 83, 105, 110, 99, 101]⟩] w fun e w' => e = .returned (.tuple #[.int .i64 0, .bool false]) ∧ Below w.heap.size w w') := date_no sMod (by decide) h hno
  clear h hno
  go_enter Tryz.func30, Tryz.ntmps30
  go_wp2_with fail
  refine HD.out.mono ?_
  rintro e w2 ⟨rfl, hb2⟩
  go_wp2
  go_ret
  exact ⟨rfl, hb2⟩

set_option maxRecDepth 100000 in
set_option maxHeartbeats 1000000 in
theorem steps_any (g : Nat) (w : World) :
    Calls Tryz.prog 13 #[.pointer (some ⟨g, 0, none⟩)] w fun e w' => e = .returned (.agg #[.func (.func 27) #[.pointer (some ⟨g, 0, none⟩)] #[], .func (.func 28) #[.pointer (some ⟨g, 0, none⟩)] #[], .func (.func 29) #[.pointer (some ⟨g, 0, none⟩)] #[], .func (.func 30) #[.pointer (some ⟨g, 0, none⟩)] #[]]) ∧ Below w.heap.size w w' := by
  go_enter Tryz.func13, Tryz.ntmps13
  go_wp2
  refine bodyPost_ret (v := .agg #[.func (.func 27) #[.pointer (some ⟨g, 0, none⟩)] #[], .func (.func 28) #[.pointer (some ⟨g, 0, none⟩)] #[], .func (.func 29) #[.pointer (some ⟨g, 0, none⟩)] #[], .func (.func 30) #[.pointer (some ⟨g, 0, none⟩)] #[]]) (by simp [results, Tryz.results13, go_sem]) rfl ?_
  refine ⟨rfl, ?_⟩
  repeat (first | exact Below.refl _ _ | refine Below.setCell ?_ (by simp) _ | refine Below.alloc ?_ (by simp) _)

end Tt
end Go.Proofs.YtjngpafokkjkdaaGreatDoor
