/- Several texts as one. -/
import Derived.Test.YthdfgepnadgkjaaGreatDoorSnL
import Derived.Deep.QuietTactic
/-
  span: the reader of pieces in memory; take.
-/
set_option linter.unusedVariables false
set_option linter.unusedSimpArgs false
namespace Go.Proofs.YthdfgepnadgkjaaGreatDoor
open Go.RowKit Go.Shelf
namespace Sn
open Oc Tg Ac

/-- Only the block g may have turned. -/
structure Chg (g : Nat) (w w' : World) : Prop where
  os : w'.os = w.os
  tape : w'.tape = w.tape
  out : w'.output = w.output
  size : w.heap.size ≤ w'.heap.size
  block : ∀ k, k < w.heap.size → k ≠ g → w'.heap[k]? = w.heap[k]?
theorem Chg.refl (g : Nat) (w : World) : Chg g w w := ⟨rfl, rfl, rfl, Nat.le_refl _, fun _ _ _ => rfl⟩
theorem Chg.trans {g : Nat} {w w' w'' : World} (a : Chg g w w') (b : Chg g w' w'') : Chg g w w'' :=
  ⟨b.os.trans a.os, b.tape.trans a.tape, b.out.trans a.out, Nat.le_trans a.size b.size, fun k h1 h2 => (b.block k (Nat.lt_of_lt_of_le h1 a.size) h2).trans (a.block k h1 h2)⟩
theorem Chg.bel {g : Nat} {w w' w'' : World} (a : Chg g w w') (b : Below w'.heap.size w' w'') : Chg g w w'' := a.trans ⟨b.os, b.tape, b.output, b.size, fun k h1 _ => b.block k h1⟩
theorem Chg.of (g : Nat) {w w' : World} (b : Below w.heap.size w w') : Chg g w w' := (Chg.refl g w).bel b
theorem Chg.set {g : Nat} {w w' : World} (a : Chg g w w') (k : Nat) (v : Value) : Chg g w (w'.setCell ⟨g, k, none⟩ v) :=
  ⟨a.os, a.tape, a.out, by simpa [World.setCell] using a.size, fun j h1 h2 => (by simp [World.setCell, Array.getElem?_modify, Ne.symm h2] : (w'.setCell ⟨g, k, none⟩ v).heap[j]? = w'.heap[j]?).trans (a.block j h1 h2)⟩
theorem Chg.below {g B : Nat} {w w' : World} (a : Chg g w w') (h : B ≤ g) (hB : B ≤ w.heap.size) : Below B w w' := ⟨a.os, a.tape, a.out, a.size, fun k hk => a.block k (by omega) (by omega)⟩
theorem Chg.cell {g : Nat} {w w' : World} (a : Chg g w w') {p : Addr} {v : Value} (h : w.cell? p = some v) (hp : p.block ≠ g) : w'.cell? p = some v := by
  have hl := World.block_lt_of_cell? w _ h
  have := a.block p.block hl hp
  unfold World.cell? at h ⊢
  rw [this]
  exact h
/-- The reader lies in the block g. -/
def RB (w : World) (g : Nat) (s : ByteArray) (a : Nat) : Prop := w.heap[g]? = some (.cells #[.string s, .int .i64 (a : Int)] 78 (0, 0))
theorem RB.below {w w' : World} {g a : Nat} {s : ByteArray} (h : RB w g s a) (b : Below w.heap.size w w') : RB w' g s a := by
  unfold RB at *
  rw [b.block g (Array.getElem?_eq_some_iff.1 h).1]
  exact h
theorem RB.lt {w : World} {g a : Nat} {s : ByteArray} (h : RB w g s a) : g < w.heap.size := (Array.getElem?_eq_some_iff.1 h).1
theorem RB.c0 {w : World} {g a : Nat} {s : ByteArray} (h : RB w g s a) : w.cell? ⟨g, 0, none⟩ = some (.string s) := by
  have := Lib.cell_of_heap h 0
  simpa using this
theorem RB.c1 {w : World} {g a : Nat} {s : ByteArray} (h : RB w g s a) : w.cell? ⟨g, 1, none⟩ = some (.int .i64 (a : Int)) := by
  have := Lib.cell_of_heap h 1
  simpa using this
theorem RB.f {w : World} {g a : Nat} {s : ByteArray} (h : RB w g s a) (k : Nat) : w.frozen? ⟨g, k, none⟩ = false := Lib.frozen_of_heap h k
theorem RB.set {w : World} {g a : Nat} {s : ByteArray} (h : RB w g s a) (b : Nat) : RB (w.setCell ⟨g, 1, none⟩ (.int .i64 (b : Int))) g s b := by
  unfold RB at h ⊢
  simp [World.setCell, Array.getElem?_modify, h]
/-- What take answers: the text, the error, how far. -/
def takeP (r : List UInt8) : Int → List (List UInt8) → List UInt8 × Int × Nat
  | f, [] => if f = 94 then ([], 94, r.length) else ([], f, 0)
  | f, t :: ts => if Lib.hasPrefix r t then (t, 0, t.length) else takeP r (if Lib.hasPrefix t r then 94 else f) ts

theorem extract_drop (s : ByteArray) (a : Nat) : s.extract a s.size = str (s.data.toList.drop a) := by
  apply eq_list
  rw [str_list]
  exact Lib.extract_to_end s a

set_option maxRecDepth 100000 in
set_option maxHeartbeats 2000000 in
theorem take_any (g : Nat) (s : ByteArray) (a : Nat) (ha : a ≤ s.size) (hs : s.size ≤ 4000000000) (fault : Int) (tv : Value) (ts : List (List UInt8)) (hts : ts.length ≤ 100) (hlen : ∀ t ∈ ts, t.length ≤ 4000000000) (w : World) (hR : RB w g s a) (hT : RdS tv ts w) :
    Calls Tryz.prog 58 #[.pointer (some ⟨g, 0, none⟩), .int .i64 fault, tv] w fun e w' => e = .returned (.tuple #[.string (str (takeP (s.data.toList.drop a) fault ts).1), .int .i64 (takeP (s.data.toList.drop a) fault ts).2.1]) ∧ RB w' g s (a + (takeP (s.data.toList.drop a) fault ts).2.2) ∧ Chg g w w' := by
  have c0 := hR.c0
  have c1 := hR.c1
  have hex := extract_drop s a
  have hrl : (s.data.toList.drop a).length = s.size - a := by rw [List.length_drop, size_list]
  have HR : Hid (RB w g s a) := hR
  have HT : Hid (RdS tv ts w) := hT
  have HP1 : Hid (∀ (t : List UInt8) W, Calls Tryz.prog 82 #[.string (str (s.data.toList.drop a)), .string (str t)] W fun e w' => e = .returned (.bool (Lib.hasPrefix (s.data.toList.drop a) t)) ∧ w' = W) := fun t W => by
    have := Tryz.strings_HasPrefix (str (s.data.toList.drop a)) (str t) W
    rw [str_list, str_list] at this
    exact this
  have HP2 : Hid (∀ (t : List UInt8) W, Calls Tryz.prog 82 #[.string (str t), .string (str (s.data.toList.drop a))] W fun e w' => e = .returned (.bool (Lib.hasPrefix t (s.data.toList.drop a))) ∧ w' = W) := fun t W => by
    have := Tryz.strings_HasPrefix (str t) (str (s.data.toList.drop a)) W
    rw [str_list, str_list] at this
    exact this
  obtain ⟨ta, tc, rfl, _⟩ := hT
  have HL : Hid (∀ t ∈ ts, t.length ≤ 4000000000) := hlen
  clear hR hlen
  have ha0 : (0 : Int) ≤ (a : Int) := by omega
  have ha1 : (a : Int) ≤ (s.size : Int) := by omega
  obtain ⟨R, hRdef⟩ : ∃ R, R = takeP (s.data.toList.drop a) fault ts := ⟨_, rfl⟩
  rw [← hRdef]
  have HRd : Hid (R = takeP (s.data.toList.drop a) fault ts) := hRdef
  clear hRdef
  generalize hrr : s.data.toList.drop a = r at *
  clear hrr
  go_enter Tryz.func58, Tryz.ntmps58
  go_wp2_with fail
  go_quiet (fail)
  obtain ⟨w1, hw1⟩ : ∃ w1, w1 = w.drewN nq := ⟨_, rfl⟩
  have hb1 : Below w.heap.size w w1 := by rw [hw1]; exact ⟨rfl, rfl, rfl, Nat.le_refl _, fun _ _ => rfl⟩
  rw [← hw1]
  clear hw1 c0 c1 hex
  have HR1 : Hid (RB w1 g s a) := HR.out.below hb1
  have HT1 : Hid (RdS (.slice ta ts.length tc) ts w1) := HT.out.below hb1
  have HC1 : Hid (Chg g w w1) := Chg.of g hb1
  clear hb1
  go_wp2
  go_loopw [1, 22] (fun fv iv wr => ∃ (k : Nat) (f : Int), k ≤ ts.length ∧ iv = .int .i64 k ∧ fv = .int .i64 f ∧ Hid (R = takeP r f (ts.drop k)) ∧ w1 = wr) (fun _ iv _ => ts.length - (intOf iv).toNat)
  case atStart => exact ⟨0, fault, Nat.zero_le _, rfl, rfl, HRd, rfl⟩
  case round =>
    obtain ⟨k, f, hk, rfl, rfl, hq, rfl⟩ := hrel
    by_cases hlt : k < ts.length
    · obtain ⟨a', c', e', hcs⟩ := HT1.out
      injection e' with e1 _ e2
      subst e1 e2
      rcases hcs with h | ⟨g2, o, rfl, hlc, hcell⟩
      · rw [h] at hlt; simp at hlt
      obtain ⟨t, ht⟩ : ∃ t, ts.drop k = t :: ts.drop (k + 1) := ⟨_, List.drop_eq_getElem_cons hlt⟩
      have hti : ts.getD k [] = t := by
        have h2 := List.drop_eq_getElem_cons hlt
        rw [ht] at h2
        injection h2 with h3 _
        rw [h3, List.getD_eq_getElem?_getD, List.getElem?_eq_getElem hlt]
        rfl
      have p0 := hcell k hlt
      rw [hti] at p0
      have htl : t.length ≤ 4000000000 := HL.out t (by rw [← hti, List.getD_eq_getElem?_getD, List.getElem?_eq_getElem hlt]; exact List.getElem_mem _)
      have HQ : Hid (R = if Lib.hasPrefix r t then (t, 0, t.length) else takeP r (if Lib.hasPrefix t r then 94 else f) (ts.drop (k + 1))) := (by rw [hq.out, ht]; rfl : R = _)
      have H1 := HP1.out t
      have H2 := HP2.out t
      have H1' : Hid (∀ W, Calls _ _ _ W _) := H1
      have H2' : Hid (∀ W, Calls _ _ _ W _) := H2
      clear H1 H2 hcell ht hti hq
      generalize Lib.hasPrefix r t = b1 at *
      generalize Lib.hasPrefix t r = b2 at *
      have hts2 : (str t).size = t.length := str_size t
      have HTZ : Hid ((str t).size = t.length) := hts2
      have htz : (str t).size ≤ 4000000000 := by omega
      clear hts2
      obtain ⟨S, HS⟩ : ∃ S, Hid (S = str t) := ⟨_, rfl⟩
      rw [← HS.out] at p0 H1' H2' HTZ htz
      cases b1 with
      | true =>
        have HQ1 : Hid (R = (t, 0, t.length)) := (by have := HQ.out; rw [if_pos rfl] at this; exact this : R = _)
        have c1 := HR1.out.c1
        have f1 := HR1.out.f 1
        go_wp2_with fail
        refine (H1'.out _).mono ?_
        rintro e w2 ⟨rfl, hw2⟩
        rw [hw2]
        clear hw2
        have HRn : Hid (RB (w1.setCell ⟨g, 1, none⟩ (.int .i64 ((a : Int) + (S.size : Int)))) g s (a + t.length)) := (by
          have := HR1.out.set (a + t.length)
          rw [show ((a + t.length : Nat) : Int) = (a : Int) + (S.size : Int) by rw [HTZ.out]; omega] at this
          exact this : RB _ _ _ _)
        have HCn : Hid (Chg g w (w1.setCell ⟨g, 1, none⟩ (.int .i64 ((a : Int) + (S.size : Int))))) := HC1.out.set 1 _
        go_wp2
        go_ret2
        rw [HQ1.out, ← HS.out]
        exact ⟨rfl, HRn.out, HCn.out⟩
      | false =>
        have HQ1 : Hid (R = takeP r (if b2 then 94 else f) (ts.drop (k + 1))) := (by have := HQ.out; rw [if_neg (by simp)] at this; exact this : R = _)
        go_wp2_with fail
        refine (H1'.out _).mono ?_
        rintro e w2 ⟨rfl, hw2⟩
        rw [hw2]
        clear hw2
        go_wp2_with fail
        refine (H2'.out _).mono ?_
        rintro e w2 ⟨rfl, hw2⟩
        rw [hw2]
        clear hw2
        cases b2 with
        | true =>
          go_wp2
          go_roundw
          case rel => exact ⟨k + 1, 94, by omega, by go_num, rfl, HQ1, trivial⟩
          case measure => simp [intOf]; omega
        | false =>
          go_wp2
          go_roundw
          case rel => exact ⟨k + 1, f, by omega, by go_num, rfl, HQ1, trivial⟩
          case measure => simp [intOf]; omega
    · obtain rfl : k = ts.length := by omega
      rw [List.drop_length] at hq
      have c0 := HR1.out.c0
      have c1 := HR1.out.c1
      have f1 := HR1.out.f 1
      by_cases hf : f = 94
      · subst hf
        have HQ1 : Hid (R = ([], 94, r.length)) := (by rw [hq.out]; rfl : R = _)
        have HRn : Hid (RB (w1.setCell ⟨g, 1, none⟩ (.int .i64 (s.size : Int))) g s (a + r.length)) := (by
          have := HR1.out.set (a + r.length)
          rw [show ((a + r.length : Nat) : Int) = (s.size : Int) by rw [hrl]; omega] at this
          exact this : RB _ _ _ _)
        have HCn : Hid (Chg g w (w1.setCell ⟨g, 1, none⟩ (.int .i64 (s.size : Int)))) := HC1.out.set 1 _
        go_wp2
        go_ret2
        rw [HQ1.out]
        exact ⟨rfl, HRn.out, HCn.out⟩
      · have HQ1 : Hid (R = ([], f, 0)) := (by rw [hq.out]; unfold takeP; rw [if_neg hf] : R = _)
        have hd : (f == 94) = false := by simpa using hf
        go_wp2
        go_ret2
        rw [HQ1.out]
        exact ⟨rfl, HR1.out, HC1.out⟩

end Sn
end Go.Proofs.YthdfgepnadgkjaaGreatDoor

/-
  span: a line of a piece's head.
-/
set_option linter.unusedVariables false
set_option linter.unusedSimpArgs false
namespace Go.Proofs.YthdfgepnadgkjaaGreatDoor
open Go.RowKit Go.Shelf
namespace Sn
open Oc Tg Ac

/-- The line's text, without a line end that has only begun. -/
def lnP (r : List UInt8) : List UInt8 := if (Lib.cut r [13, 10]).2.2 then (Lib.cut r [13, 10]).1 else Lib.trimSuffix (Lib.cut r [13, 10]).1 [13]
def fitP (r h : List UInt8) : Bool := Lib.hasPrefix (lnP r) h && isFld (Lib.trimPrefix (lnP r) h)
/-- What line answers: the value, the error, how far. -/
def lineP (r h : List UInt8) : List UInt8 × Int × Nat :=
  if fitP r h && (Lib.cut r [13, 10]).2.2 then (Lib.trimPrefix (lnP r) h, 0, (lnP r).length + 2)
  else if fitP r h || Lib.hasPrefix h r then ([], 94, r.length) else ([], 93, 0)
theorem cut1_len (r p : List UInt8) : (Lib.cut r p).1.length ≤ r.length := by
  unfold Lib.cut
  split
  · simp; omega
  · simp
theorem trimS_len (r p : List UInt8) : (Lib.trimSuffix r p).length ≤ r.length := by
  unfold Lib.trimSuffix
  split
  · simp
  · simp
theorem trimP_len (r p : List UInt8) : (Lib.trimPrefix r p).length ≤ r.length := by
  unfold Lib.trimPrefix
  split
  · simp
  · simp
theorem lnP_len (r : List UInt8) : (lnP r).length ≤ r.length := by
  unfold lnP
  split
  · exact cut1_len _ _
  · exact Nat.le_trans (trimS_len _ _) (cut1_len _ _)

set_option maxRecDepth 100000 in
set_option maxHeartbeats 2000000 in
theorem line_any (g : Nat) (s : ByteArray) (a : Nat) (ha : a ≤ s.size) (hs : s.size ≤ 4000000000) (h : List UInt8) (w : World) (hR : RB w g s a) (hw : ML w) :
    Calls Tryz.prog 83 #[.pointer (some ⟨g, 0, none⟩), .string (str h)] w fun e w' => e = .returned (.tuple #[.string (str (lineP (s.data.toList.drop a) h).1), .int .i64 (lineP (s.data.toList.drop a) h).2.1]) ∧ RB w' g s (a + (lineP (s.data.toList.drop a) h).2.2) ∧ Chg g w w' := by
  have c0 := hR.c0
  have c1 := hR.c1
  have hex := extract_drop s a
  have hrl : (s.data.toList.drop a).length = s.size - a := by rw [List.length_drop, size_list]
  have HR : Hid (RB w g s a) := hR
  have l1 := lnP_len (s.data.toList.drop a)
  have l2 := cut1_len (s.data.toList.drop a) [13, 10]
  have l3 := trimP_len (lnP (s.data.toList.drop a)) h
  have HCt : Hid (∀ W, ML W → Calls Tryz.prog 36 #[.string (str (s.data.toList.drop a)), .string ⟨#[13, 10]⟩] W fun e w' => e = .returned (.tuple #[.string (str (Lib.cut (s.data.toList.drop a) [13, 10]).1), .string (str (Lib.cut (s.data.toList.drop a) [13, 10]).2.1), .bool (Lib.cut (s.data.toList.drop a) [13, 10]).2.2]) ∧ Below (World.heap W).size W w') := fun W hW => by
    have := Cut_any (str (s.data.toList.drop a)) ⟨#[13, 10]⟩ (by rw [str_size]; omega) W hW
    rw [str_list] at this
    exact this
  have HTs : Hid (∀ W, Calls Tryz.prog 99 #[.string (str (Lib.cut (s.data.toList.drop a) [13, 10]).1), .string ⟨#[13]⟩] W fun e w' => e = .returned (.string (str (Lib.trimSuffix (Lib.cut (s.data.toList.drop a) [13, 10]).1 [13]))) ∧ w' = W) := fun W => by
    have := Tryz.strings_TrimSuffix (str (Lib.cut (s.data.toList.drop a) [13, 10]).1) ⟨#[13]⟩ W (by rw [str_size]; omega)
    rw [str_list] at this
    exact this
  have HCp : Hid (∀ W, Calls Tryz.prog 100 #[.string (str (lnP (s.data.toList.drop a))), .string (str h)] W fun e w' => e = .returned (.tuple #[.string (str (Lib.trimPrefix (lnP (s.data.toList.drop a)) h)), .bool (Lib.hasPrefix (lnP (s.data.toList.drop a)) h)]) ∧ w' = W) := fun W => by
    have := Tryz.strings_CutPrefix (str (lnP (s.data.toList.drop a))) (str h) W
    rw [str_list, str_list] at this
    exact this
  have HFi : Hid (∀ W, Calls Tryz.prog 28 #[.string (str (Lib.trimPrefix (lnP (s.data.toList.drop a)) h))] W fun e w' => e = .returned (.bool (isFld (Lib.trimPrefix (lnP (s.data.toList.drop a)) h))) ∧ Below (World.heap W).size W w') := fun W => by
    have := IsField_any (str (Lib.trimPrefix (lnP (s.data.toList.drop a)) h)) (by rw [str_size]; unfold maxLen; omega) W
    rw [str_list] at this
    exact this
  have HHp : Hid (∀ W, Calls Tryz.prog 82 #[.string (str h), .string (str (s.data.toList.drop a))] W fun e w' => e = .returned (.bool (Lib.hasPrefix h (s.data.toList.drop a))) ∧ w' = W) := fun W => by
    have := Tryz.strings_HasPrefix (str h) (str (s.data.toList.drop a)) W
    rw [str_list, str_list] at this
    exact this
  have HLn1 : Hid ((Lib.cut (s.data.toList.drop a) [13, 10]).2.2 = true → lnP (s.data.toList.drop a) = (Lib.cut (s.data.toList.drop a) [13, 10]).1) := (fun h => by unfold lnP; rw [if_pos h] : _ → _)
  have HLn2 : Hid ((Lib.cut (s.data.toList.drop a) [13, 10]).2.2 = false → lnP (s.data.toList.drop a) = Lib.trimSuffix (Lib.cut (s.data.toList.drop a) [13, 10]).1 [13]) := (fun h => by unfold lnP; rw [if_neg (by simp [h])] : _ → _)
  have HRd : Hid (lineP (s.data.toList.drop a) h = if (Lib.hasPrefix (lnP (s.data.toList.drop a)) h && isFld (Lib.trimPrefix (lnP (s.data.toList.drop a)) h)) && (Lib.cut (s.data.toList.drop a) [13, 10]).2.2 then (Lib.trimPrefix (lnP (s.data.toList.drop a)) h, 0, (lnP (s.data.toList.drop a)).length + 2)
    else if (Lib.hasPrefix (lnP (s.data.toList.drop a)) h && isFld (Lib.trimPrefix (lnP (s.data.toList.drop a)) h)) || Lib.hasPrefix h (s.data.toList.drop a) then ([], 94, (s.data.toList.drop a).length) else ([], 93, 0)) := rfl
  have HML : Hid (ML w) := hw
  clear hR hw
  have ha0 : (0 : Int) ≤ (a : Int) := by omega
  have ha1 : (a : Int) ≤ (s.size : Int) := by omega
  generalize lineP (s.data.toList.drop a) h = R at *
  generalize hln : lnP (s.data.toList.drop a) = LN at *
  generalize (Lib.cut (s.data.toList.drop a) [13, 10]).1 = C1 at *
  generalize str (Lib.cut (s.data.toList.drop a) [13, 10]).2.1 = C2 at *
  generalize (Lib.cut (s.data.toList.drop a) [13, 10]).2.2 = en at *
  generalize Lib.trimSuffix C1 [13] = TS at *
  generalize Lib.hasPrefix LN h = b1 at *
  generalize Lib.hasPrefix h (s.data.toList.drop a) = b3 at *
  generalize hrr : s.data.toList.drop a = r at *
  have HLz : Hid ((str LN).size = LN.length) := str_size LN
  have hLz : (str LN).size ≤ 4000000000 := by rw [str_size]; omega
  generalize Lib.trimPrefix LN h = VL at *
  generalize isFld VL = b2 at *
  clear hrr hln l1 l2 l3
  go_enter Tryz.func83, Tryz.ntmps83
  go_wp2_with fail
  go_quiet (fail)
  obtain ⟨w1, hw1⟩ : ∃ w1, w1 = w.drewN nq := ⟨_, rfl⟩
  have hb1 : Below w.heap.size w w1 := by rw [hw1]; exact ⟨rfl, rfl, rfl, Nat.le_refl _, fun _ _ => rfl⟩
  rw [← hw1]
  clear hw1 c0 c1 hex
  have HR1 : Hid (RB w1 g s a) := HR.out.below hb1
  have HB1 : Hid (Below w.heap.size w w1) := hb1
  clear hb1
  go_wp2_with fail
  refine (HCt.out _ (HML.out.below HB1.out)).mono ?_
  rintro e w2 ⟨rfl, hb2⟩
  have HR2 : Hid (RB w2 g s a) := HR1.out.below hb2
  have HB2 : Hid (Below w.heap.size w w2) := bel_trans HB1.out hb2
  clear hb2 HR1 HB1
  have key : ∀ (W : World), Hid (RB W g s a) → Hid (Chg g w W) → (Hid (RB (W.setCell ⟨g, 1, none⟩ (.int .i64 ((a : Int) + ((str LN).size + 2 : Int)))) g s (a + (LN.length + 2))) ∧ Hid (Chg g w (W.setCell ⟨g, 1, none⟩ (.int .i64 ((a : Int) + ((str LN).size + 2 : Int)))))) ∧ (Hid (RB (W.setCell ⟨g, 1, none⟩ (.int .i64 (s.size : Int))) g s (a + r.length)) ∧ Hid (Chg g w (W.setCell ⟨g, 1, none⟩ (.int .i64 (s.size : Int))))) := fun W hr hc => by
    refine ⟨⟨?_, hc.out.set 1 _⟩, ⟨?_, hc.out.set 1 _⟩⟩
    · have := hr.out.set (a + (LN.length + 2))
      rw [show ((a + (LN.length + 2) : Nat) : Int) = (a : Int) + (((str LN).size : Int) + 2) by rw [HLz.out]; omega] at this
      exact this
    · have := hr.out.set (a + r.length)
      rw [show ((a + r.length : Nat) : Int) = (s.size : Int) by rw [hrl]; omega] at this
      exact this
  have HK : Hid (∀ (W : World), Hid (RB W g s a) → Hid (Chg g w W) → _) := key
  clear key
  cases en with
  | true =>
    have eL : LN = C1 := HLn1.out rfl
    subst eL
    clear HLn1 HLn2 HTs
    go_wp2_with fail
    refine (HCp.out _).mono ?_
    rintro e w3 ⟨rfl, hw3⟩
    rw [hw3]
    clear hw3
    cases b1 with
    | true =>
      go_wp2_with fail
      refine (HFi.out _).mono ?_
      rintro e w4 ⟨rfl, hb4⟩
      have HR4 : Hid (RB w4 g s a) := HR2.out.below hb4
      have HC4 : Hid (Chg g w w4) := (Chg.of g HB2.out).bel hb4
      have c0 := HR4.out.c0
      have c1 := HR4.out.c1
      have f1 := HR4.out.f 1
      obtain ⟨⟨K1, K2⟩, K3, K4⟩ := HK.out w4 HR4 HC4
      clear hb4 HK
      cases b2 with
      | true =>
        have HQ : Hid (R = _) := (by rw [HRd.out]; simp : R = (VL, 0, LN.length + 2))
        go_wp2
        go_ret2
        rw [HQ.out]
        exact ⟨rfl, K1.out, K2.out⟩
      | false =>
        cases b3 with
        | true =>
          have HQ : Hid (R = _) := (by rw [HRd.out]; simp : R = ([], 94, r.length))
          go_wp2_with fail
          refine (HHp.out _).mono ?_
          rintro e w5 ⟨rfl, hw5⟩
          rw [hw5]
          clear hw5
          go_wp2
          go_ret2
          rw [HQ.out]
          exact ⟨rfl, K3.out, K4.out⟩
        | false =>
          have HQ : Hid (R = _) := (by rw [HRd.out]; simp : R = ([], 93, 0))
          go_wp2_with fail
          refine (HHp.out _).mono ?_
          rintro e w5 ⟨rfl, hw5⟩
          rw [hw5]
          clear hw5
          go_wp2
          go_ret2
          rw [HQ.out]
          exact ⟨rfl, HR4.out, HC4.out⟩
    | false =>
      have HC2 : Hid (Chg g w w2) := Chg.of g HB2.out
      have c0 := HR2.out.c0
      have c1 := HR2.out.c1
      have f1 := HR2.out.f 1
      obtain ⟨⟨K1, K2⟩, K3, K4⟩ := HK.out w2 HR2 HC2
      cases b3 with
      | true =>
        have HQ : Hid (R = _) := (by rw [HRd.out]; simp : R = ([], 94, r.length))
        go_wp2_with fail
        refine (HHp.out _).mono ?_
        rintro e w5 ⟨rfl, hw5⟩
        rw [hw5]
        clear hw5
        go_wp2
        go_ret2
        rw [HQ.out]
        exact ⟨rfl, K3.out, K4.out⟩
      | false =>
        have HQ : Hid (R = _) := (by rw [HRd.out]; simp : R = ([], 93, 0))
        go_wp2_with fail
        refine (HHp.out _).mono ?_
        rintro e w5 ⟨rfl, hw5⟩
        rw [hw5]
        clear hw5
        go_wp2
        go_ret2
        rw [HQ.out]
        exact ⟨rfl, HR2.out, HC2.out⟩
  | false =>
    have eL : LN = TS := HLn2.out rfl
    subst eL
    clear HLn1 HLn2
    go_wp2_with fail
    refine (HTs.out _).mono ?_
    rintro e w3 ⟨rfl, hw3⟩
    rw [hw3]
    clear hw3
    go_wp2_with fail
    refine (HCp.out _).mono ?_
    rintro e w3 ⟨rfl, hw3⟩
    rw [hw3]
    clear hw3
    cases b1 with
    | true =>
      go_wp2_with fail
      refine (HFi.out _).mono ?_
      rintro e w4 ⟨rfl, hb4⟩
      have HR4 : Hid (RB w4 g s a) := HR2.out.below hb4
      have HC4 : Hid (Chg g w w4) := (Chg.of g HB2.out).bel hb4
      have c0 := HR4.out.c0
      have c1 := HR4.out.c1
      have f1 := HR4.out.f 1
      obtain ⟨⟨K1, K2⟩, K3, K4⟩ := HK.out w4 HR4 HC4
      clear hb4 HK
      cases b2 with
      | true =>
        have HQ : Hid (R = _) := (by rw [HRd.out]; simp : R = ([], 94, r.length))
        go_wp2
        go_ret2
        rw [HQ.out]
        exact ⟨rfl, K3.out, K4.out⟩
      | false =>
        cases b3 with
        | true =>
          have HQ : Hid (R = _) := (by rw [HRd.out]; simp : R = ([], 94, r.length))
          go_wp2_with fail
          refine (HHp.out _).mono ?_
          rintro e w5 ⟨rfl, hw5⟩
          rw [hw5]
          clear hw5
          go_wp2
          go_ret2
          rw [HQ.out]
          exact ⟨rfl, K3.out, K4.out⟩
        | false =>
          have HQ : Hid (R = _) := (by rw [HRd.out]; simp : R = ([], 93, 0))
          go_wp2_with fail
          refine (HHp.out _).mono ?_
          rintro e w5 ⟨rfl, hw5⟩
          rw [hw5]
          clear hw5
          go_wp2
          go_ret2
          rw [HQ.out]
          exact ⟨rfl, HR4.out, HC4.out⟩
    | false =>
      have HC2 : Hid (Chg g w w2) := Chg.of g HB2.out
      have c0 := HR2.out.c0
      have c1 := HR2.out.c1
      have f1 := HR2.out.f 1
      obtain ⟨⟨K1, K2⟩, K3, K4⟩ := HK.out w2 HR2 HC2
      cases b3 with
      | true =>
        have HQ : Hid (R = _) := (by rw [HRd.out]; simp : R = ([], 94, r.length))
        go_wp2_with fail
        refine (HHp.out _).mono ?_
        rintro e w5 ⟨rfl, hw5⟩
        rw [hw5]
        clear hw5
        go_wp2
        go_ret2
        rw [HQ.out]
        exact ⟨rfl, K3.out, K4.out⟩
      | false =>
        have HQ : Hid (R = _) := (by rw [HRd.out]; simp : R = ([], 93, 0))
        go_wp2_with fail
        refine (HHp.out _).mono ?_
        rintro e w5 ⟨rfl, hw5⟩
        rw [hw5]
        clear hw5
        go_wp2
        go_ret2
        rw [HQ.out]
        exact ⟨rfl, HR2.out, HC2.out⟩

end Sn
end Go.Proofs.YthdfgepnadgkjaaGreatDoor

/-
  span: a piece.
-/
set_option linter.unusedVariables false
set_option linter.unusedSimpArgs false
namespace Go.Proofs.YthdfgepnadgkjaaGreatDoor
open Go.RowKit Go.Shelf
namespace Sn
open Oc Tg Ac

def ctH : List UInt8 := [67, 111, 110, 116, 101, 110, 116, 45, 84, 121, 112, 101, 58, 32]
def crH : List UInt8 := [67, 111, 110, 116, 101, 110, 116, 45, 82, 97, 110, 103, 101, 58, 32]
/-- A piece: its media type, span, size, bytes. -/
structure Pc where
  media : List UInt8
  sp : Sp
  size : Int
  body : List UInt8
def noPc : Pc := ⟨[], (0, 0), 0, []⟩
/-- What piece answers: the piece, the error, how far. -/
def pieceP (r : List UInt8) : Pc × Int × Nat :=
  if (lineP r ctH).2.1 ≠ 0 then (noPc, (lineP r ctH).2.1, (lineP r ctH).2.2) else
  if (lineP (r.drop (lineP r ctH).2.2) crH).2.1 ≠ 0 then (noPc, (lineP (r.drop (lineP r ctH).2.2) crH).2.1, (lineP r ctH).2.2 + (lineP (r.drop (lineP r ctH).2.2) crH).2.2) else
  if (tolR (lineP (r.drop (lineP r ctH).2.2) crH).1).1 = (0, 0) then (noPc, 93, (lineP r ctH).2.2) else
  if (takeP (r.drop ((lineP r ctH).2.2 + (lineP (r.drop (lineP r ctH).2.2) crH).2.2)) 93 [[13, 10]]).2.1 ≠ 0 then (noPc, (takeP (r.drop ((lineP r ctH).2.2 + (lineP (r.drop (lineP r ctH).2.2) crH).2.2)) 93 [[13, 10]]).2.1, (lineP r ctH).2.2 + (lineP (r.drop (lineP r ctH).2.2) crH).2.2 + (takeP (r.drop ((lineP r ctH).2.2 + (lineP (r.drop (lineP r ctH).2.2) crH).2.2)) 93 [[13, 10]]).2.2) else
  if ((r.length - ((lineP r ctH).2.2 + (lineP (r.drop (lineP r ctH).2.2) crH).2.2 + 2) : Nat) : Int) < (tolR (lineP (r.drop (lineP r ctH).2.2) crH).1).1.2 - (tolR (lineP (r.drop (lineP r ctH).2.2) crH).1).1.1 then (noPc, 94, r.length) else
  (⟨(lineP r ctH).1, (tolR (lineP (r.drop (lineP r ctH).2.2) crH).1).1, (tolR (lineP (r.drop (lineP r ctH).2.2) crH).1).2.1, (r.drop ((lineP r ctH).2.2 + (lineP (r.drop (lineP r ctH).2.2) crH).2.2 + 2)).take ((tolR (lineP (r.drop (lineP r ctH).2.2) crH).1).1.2 - (tolR (lineP (r.drop (lineP r ctH).2.2) crH).1).1.1).toNat⟩, 0,
    (lineP r ctH).2.2 + (lineP (r.drop (lineP r ctH).2.2) crH).2.2 + 2 + ((tolR (lineP (r.drop (lineP r ctH).2.2) crH).1).1.2 - (tolR (lineP (r.drop (lineP r ctH).2.2) crH).1).1.1).toNat)

theorem tolR_bd (l : List UInt8) : (tolR l).1 = (0, 0) ∨ (0 ≤ (tolR l).1.1 ∧ (tolR l).1.1 < (tolR l).1.2 ∧ (tolR l).1.2 ≤ 4611686018427387905) := by
  have ex : ∀ s, (exP s).2 = true → 0 ≤ (exP s).1.1 ∧ (exP s).1.1 < (exP s).1.2 ∧ (exP s).1.2 ≤ 4611686018427387905 := fun s h => by
    have h1 := pln_bd (cutA 45 s)
    have h2 := pln_bd (cutB 45 s)
    unfold exP at h ⊢
    simp only [Bool.and_eq_true, decide_eq_true_eq] at h
    dsimp only
    omega
  unfold tolR
  split
  · unfold tolS
    split
    · rename_i h
      simp only [Bool.and_eq_true] at h
      exact .inr (ex _ h.1.1)
    · split
      · rename_i h
        simp only [Bool.and_eq_true] at h
        exact .inr (ex _ h.1)
      · split
        · exact .inl rfl
        · exact .inl rfl
  · exact .inl rfl
theorem lineP_far (r h : List UInt8) : (lineP r h).2.2 ≤ r.length ∧ (lineP r h).1.length ≤ r.length := by
  have l1 := lnP_len r
  have l2 := trimP_len (lnP r) h
  unfold lineP
  split
  · rename_i hh
    simp only [Bool.and_eq_true] at hh
    have hen := hh.2
    refine ⟨?_, by dsimp only; omega⟩
    dsimp only
    unfold lnP
    rw [if_pos hen]
    unfold Lib.cut at hen ⊢
    split
    · rename_i hi
      have := Lib.index_room r [13, 10] (by omega)
      simp only [List.length_take]
      simp at this
      omega
    · rename_i hi
      rw [if_neg hi] at hen
      cases hen
  · split
    · exact ⟨Nat.le_refl _, by simp⟩
    · exact ⟨Nat.zero_le _, by simp⟩
theorem takeP_far (r : List UInt8) : ∀ (ts : List (List UInt8)) (f : Int), (takeP r f ts).2.2 ≤ r.length
  | [], f => by unfold takeP; split <;> simp
  | t :: ts, f => by
    unfold takeP
    split
    · rename_i h
      have h2 := Lib.hasPrefix_of_take r t
      rw [h] at h2
      simp only [Bool.and_eq_true, decide_eq_true_eq] at h2
      exact h2.1
    · exact takeP_far r ts _
/-- A piece that lies in the block b. -/
def P9 (w : World) (b : Nat) (m : ByteArray) (f t z : Int) (y : ByteArray) : Prop := w.heap[b]? = some (.cells #[.string m, .int .i64 f, .int .i64 t, .int .i64 z, .string y] 40 (0, 0))
variable {w w' : World} {b g : Nat} {m y : ByteArray} {f t z : Int}
theorem P9.lt (h : P9 w b m f t z y) : b < w.heap.size := (Array.getElem?_eq_some_iff.1 h).1
theorem P9.chg (h : P9 w b m f t z y) (c : Chg g w w') (hn : b ≠ g) : P9 w' b m f t z y := by
  unfold P9 at *
  rw [c.block b (P9.lt h) hn]
  exact h
theorem P9.cells (h : P9 w b m f t z y) : w.cell? ⟨b, 0, none⟩ = some (.string m) ∧ w.cell? ⟨b, 1, none⟩ = some (.int .i64 f) ∧ w.cell? ⟨b, 2, none⟩ = some (.int .i64 t) ∧ w.cell? ⟨b, 3, none⟩ = some (.int .i64 z) ∧ w.cell? ⟨b, 4, none⟩ = some (.string y) := by
  have := Lib.cell_of_heap h
  exact ⟨by simpa using this 0, by simpa using this 1, by simpa using this 2, by simpa using this 3, by simpa using this 4⟩
theorem P9.fz (h : P9 w b m f t z y) (k : Nat) : w.frozen? ⟨b, k, none⟩ = false := Lib.frozen_of_heap h k
theorem P9.set0 (h : P9 w b m f t z y) (m' : ByteArray) : P9 (w.setCell ⟨b, 0, none⟩ (.string m')) b m' f t z y := by
  unfold P9 at h ⊢
  simp [World.setCell, Array.getElem?_modify, h]
theorem P9.other (h : P9 w b m f t z y) {p : Addr} (hp : p.block ≠ b) (v : Value) : P9 (w.setCell p v) b m f t z y := by
  unfold P9 at h ⊢
  simp [World.setCell, Array.getElem?_modify, hp, h]
theorem RB.chgo {s : ByteArray} {a : Nat} (h : RB w g s a) {p : Addr} (hp : p.block ≠ g) (v : Value) : RB (w.setCell p v) g s a := by
  unfold RB at h ⊢
  simp [World.setCell, Array.getElem?_modify, hp, h]

end Sn
end Go.Proofs.YthdfgepnadgkjaaGreatDoor
