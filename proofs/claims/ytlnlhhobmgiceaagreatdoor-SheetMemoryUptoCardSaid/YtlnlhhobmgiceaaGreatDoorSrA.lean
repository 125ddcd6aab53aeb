/-
  sheet: the reader in its block; errors; shut, bytes, passPreamble.
-/
import Derived.Test.YtlnlhhobmgiceaaGreatDoorMgF
import Derived.Deep.QuietTactic
import Derived.Deep.RegionHeld3
set_option linter.unusedVariables false
set_option linter.unusedSimpArgs false
namespace Go.Proofs.YtlnlhhobmgiceaaGreatDoor
open Go.RowKit Go.Shelf
namespace Sr
open Oc Tg Mf

/-- Only the block g may have turned. -/
structure Chg (g : Nat) (w w' : World) : Prop where
  os : w'.os = w.os
  tape : w'.tape = w.tape
  out : w'.output = w.output
  size : w.heap.size ≤ w'.heap.size
  block : ∀ k, k < w.heap.size → k ≠ g → w'.heap[k]? = w.heap[k]?
theorem Chg.refl (g : Nat) (w : World) : Chg g w w := ⟨rfl, rfl, rfl, Nat.le_refl _, fun _ _ _ => rfl⟩
theorem Chg.trans {g : Nat} {w w' w'' : World} (a : Chg g w w') (b : Chg g w' w'') : Chg g w w'' :=
  ⟨b.os.trans a.os, b.tape.trans a.tape, b.out.trans a.out, Nat.le_trans a.size b.size, fun k h1 h2 => (b.block k (Nat.lt_of_lt_of_le h1 a.size) h2).trans (a.block k h1 h2)⟩
theorem Chg.bel {g : Nat} {w w' w'' : World} (a : Chg g w w') (b : Below w'.heap.size w' w'') : Chg g w w'' := a.trans ⟨b.os, b.tape, b.output, b.size, fun k h1 _ => b.block k h1⟩
theorem Chg.of (g : Nat) {w w' : World} (b : Below w.heap.size w w') : Chg g w w' := (Chg.refl g w).bel b
theorem Chg.set {g : Nat} {w w' : World} (a : Chg g w w') (k : Nat) (v : Value) : Chg g w (w'.setCell ⟨g, k, none⟩ v) :=
  ⟨a.os, a.tape, a.out, by simpa [World.setCell] using a.size, fun j h1 h2 => (by simp [World.setCell, Array.getElem?_modify, Ne.symm h2] : (w'.setCell ⟨g, k, none⟩ v).heap[j]? = w'.heap[j]?).trans (a.block j h1 h2)⟩
theorem Chg.below {g B : Nat} {w w' : World} (a : Chg g w w') (h : B ≤ g) (hB : B ≤ w.heap.size) : Below B w w' := ⟨a.os, a.tape, a.out, a.size, fun k hk => a.block k (by omega) (by omega)⟩
/-- The reader lies in the block g. -/
def SR (w : World) (g : Nat) (s m : ByteArray) (a : Nat) : Prop := w.heap[g]? = some (.cells #[.string s, .string m, .int .i64 (a : Int)] 71 (0, 0))
theorem SR.below {w w' : World} {g a : Nat} {s m : ByteArray} (h : SR w g s m a) (b : Below w.heap.size w w') : SR w' g s m a := by
  unfold SR at *
  rw [b.block g (Array.getElem?_eq_some_iff.1 h).1]
  exact h
theorem SR.lt {w : World} {g a : Nat} {s m : ByteArray} (h : SR w g s m a) : g < w.heap.size := (Array.getElem?_eq_some_iff.1 h).1
theorem SR.cells {w : World} {g a : Nat} {s m : ByteArray} (h : SR w g s m a) : w.cell? ⟨g, 0, none⟩ = some (.string s) ∧ w.cell? ⟨g, 1, none⟩ = some (.string m) ∧ w.cell? ⟨g, 2, none⟩ = some (.int .i64 (a : Int)) := by
  have : ∀ k : Nat, w.cell? ⟨g, k, none⟩ = #[Value.string s, .string m, .int .i64 (a : Int)][k]? := fun k => by unfold SR at h; simp [World.cell?, h]
  exact ⟨by simpa using this 0, by simpa using this 1, by simpa using this 2⟩
theorem SR.f {w : World} {g a : Nat} {s m : ByteArray} (h : SR w g s m a) (k : Nat) : w.frozen? ⟨g, k, none⟩ = false := Lib.frozen_of_heap h k
theorem SR.set {w : World} {g a : Nat} {s m : ByteArray} (h : SR w g s m a) (b : Nat) : SR (w.setCell ⟨g, 2, none⟩ (.int .i64 (b : Int))) g s m b := by
  have := heap_setCell_same w g 2 _ _ (.int .i64 (b : Int)) h
  unfold SR
  rw [this]
  rfl
/-- What is wrong: nothing, or a place and a number. -/
def errV : Option (Int × Int) → Value
  | none => .nilIface
  | some (x, n) => .iface 120 (.agg #[.int .i64 x, .iface 35 (.int .i64 n)])

set_option maxRecDepth 100000 in
theorem shut_any (g a : Nat) (s m : ByteArray) (hs : s.size ≤ 4000000000) (w : World) (hR : SR w g s m a) :
    Calls Tryz.prog 98 #[.pointer (some ⟨g, 0, none⟩)] w fun e w' => e = .returned (errV (some ((s.size : Int), 154))) ∧ Below w.heap.size w w' := by
  obtain ⟨c0, c1, c2⟩ := hR.cells
  go_enter Tryz.func98, Tryz.ntmps98
  go_wp2
  go_ret
  exact ⟨rfl, Below.refl _ _⟩

/-- What bytes answers: the bytes, what is wrong, how far. -/
def bytP (r mk : List UInt8) (z : Nat) : List UInt8 × Option (Int × Int) × Nat :=
  if (Lib.cut r ([13, 10] ++ mk)).2.2 = true then ((Lib.cut r ([13, 10] ++ mk)).1, none, (Lib.cut r ([13, 10] ++ mk)).1.length + 2) else ([], some ((z : Int), 154), 0)
theorem cut1_len (r p : List UInt8) : (Lib.cut r p).1.length ≤ r.length := by
  unfold Lib.cut
  split
  · simp; omega
  · simp
theorem ext_drop (s : ByteArray) (a : Nat) : s.extract a s.size = str (s.data.toList.drop a) := by
  apply eq_list
  rw [str_list]
  exact Lib.extract_to_end s a

set_option maxRecDepth 100000 in
set_option maxHeartbeats 2000000 in
theorem bytes_any (g a : Nat) (s : ByteArray) (mk : List UInt8) (ha : a ≤ s.size) (hs : s.size ≤ 4000000000) (hm : mk.length ≤ 4000000) (w : World) (hR : SR w g s (str mk) a) (hw : ML w) :
    Calls Tryz.prog 97 #[.pointer (some ⟨g, 0, none⟩)] w fun e w' => e = .returned (.tuple #[.string (str (bytP (s.data.toList.drop a) mk s.size).1), errV (bytP (s.data.toList.drop a) mk s.size).2.1]) ∧ SR w' g s (str mk) (a + (bytP (s.data.toList.drop a) mk s.size).2.2) ∧ Chg g w w' := by
  obtain ⟨c0, c1, c2⟩ := hR.cells
  have hex := ext_drop s a
  have hrl : (s.data.toList.drop a).length = s.size - a := by rw [List.length_drop, size_list]
  have HR : Hid (SR w g s (str mk) a) := hR
  have l2 := cut1_len (s.data.toList.drop a) ([13, 10] ++ mk)
  have hcat : (⟨#[13, 10]⟩ : ByteArray) ++ str mk = str ([13, 10] ++ mk) := by apply eq_list; simp [str]
  have HCt : Hid (∀ W, ML W → Calls Tryz.prog 28 #[.string (str (s.data.toList.drop a)), .string (str ([13, 10] ++ mk))] W fun e w' => e = .returned (.tuple #[.string (str (Lib.cut (s.data.toList.drop a) ([13, 10] ++ mk)).1), .string (str (Lib.cut (s.data.toList.drop a) ([13, 10] ++ mk)).2.1), .bool (Lib.cut (s.data.toList.drop a) ([13, 10] ++ mk)).2.2]) ∧ Below (World.heap W).size W w') := fun W hW => by
    have := Cut_g (str (s.data.toList.drop a)) (str ([13, 10] ++ mk)) (by rw [str_size]; omega) W hW
    rw [str_list, str_list] at this
    exact this
  have HRd : Hid (bytP (s.data.toList.drop a) mk s.size = _) := (by unfold bytP; exact rfl)
  have HML : Hid (ML w) := hw
  have ha0 : (0 : Int) ≤ (a : Int) := by omega
  have ha1 : (a : Int) ≤ (s.size : Int) := by omega
  generalize bytP (s.data.toList.drop a) mk s.size = R at *
  generalize hc1 : (Lib.cut (s.data.toList.drop a) ([13, 10] ++ mk)).1 = C1 at *
  generalize str (Lib.cut (s.data.toList.drop a) ([13, 10] ++ mk)).2.1 = C2 at *
  generalize (Lib.cut (s.data.toList.drop a) ([13, 10] ++ mk)).2.2 = en at *
  clear hc1
  have hC1 : (str C1).size = C1.length := str_size C1
  have hC2 : C1.length ≤ s.size - a := by omega
  generalize str ([13, 10] ++ mk) = SEP at *
  have hmz : (str mk).size ≤ 4000000 := by rw [str_size]; exact hm
  have hk2 : (⟨#[13, 10]⟩ : ByteArray).size = 2 := rfl
  have hadd : ¬ (9223372036854775807 < (⟨#[13, 10]⟩ : ByteArray).size + (str mk).size) := by omega
  generalize str (s.data.toList.drop a) = RR at *
  generalize hsc : str C1 = SC1 at *
  have HSC : Hid (str C1 = SC1) := hsc
  clear hsc
  generalize str mk = SM at *
  clear hrl l2 hm hadd
  obtain ⟨zM, hzM⟩ : ∃ zM, SM.size = zM := ⟨_, rfl⟩
  have hzz : zM ≤ 4000000 := by omega
  clear hmz
  have had1 : ¬ (9223372036854775807 < 2 + zM) := by omega
  have HB : Hid (Below w.heap.size w w.drew) := (Below.refl _ _).drew
  have HS : Hid (w.drew.cell? ⟨g, 0, none⟩ = some (.string s) ∧ w.drew.cell? ⟨g, 1, none⟩ = some (.string SM) ∧ w.drew.cell? ⟨g, 2, none⟩ = some (.int .i64 (a : Int))) := ⟨c0, c1, c2⟩
  go_enter Tryz.func97, Tryz.ntmps97
  go_wp2_with fail
  generalize (⟨#[13, 10]⟩ : ByteArray) = K2 at *
  go_region_held3 (fun W => W.cell? ⟨g, 0, none⟩ = some (.string s) ∧ W.cell? ⟨g, 1, none⟩ = some (.string SM) ∧ W.cell? ⟨g, 2, none⟩ = some (.int .i64 (a : Int))) (first | with_reducible exact HS.out | go_keep) (first
    | (go_at_call 28; refine (HCt.out _ (HML.out.below HB.out)).mono ?_; rintro e w2 ⟨rfl, hb2⟩; have HB : Hid (Below w.heap.size w w2) := bel_trans HB.out hb2; have HS : Hid (w2.cell? ⟨g, 0, none⟩ = some (.string s) ∧ w2.cell? ⟨g, 1, none⟩ = some (.string SM) ∧ w2.cell? ⟨g, 2, none⟩ = some (.int .i64 (a : Int))) := (HR.out.below HB.out).cells; clear hb2))
  all_goals
    have HR2 : Hid (SR _ g s SM a) := HR.out.below HB.out
    obtain ⟨d0, d1, d2⟩ := HR2.out.cells
    have df := HR2.out.f 2
    cases en with
    | false =>
      have HQ : Hid (R = ([], some ((s.size : Int), 154), 0)) := (by rw [HRd.out]; simp : R = _)
      go_wp2_with fail
      refine (shut_any g a s SM hs _ HR2.out).mono ?_
      rintro e w3 ⟨rfl, hb3⟩
      have HR3 : Hid (SR w3 g s SM a) := HR2.out.below hb3
      have HB3 : Hid (Chg g w w3) := Chg.of g (bel_trans HB.out hb3)
      clear hb3
      go_wp2
      go_ret2
      rw [HQ.out]
      exact ⟨rfl, HR3.out, HB3.out⟩
    | true =>
      have HQ : Hid (R = (C1, none, C1.length + 2)) := (by rw [HRd.out]; simp : R = _)
      have HE : Hid ((a : Int) + ((C1.length : Int) + 2) = ((a + (C1.length + 2) : Nat) : Int)) := (by push_cast; rfl : _ = _)
      go_wp2
      go_ret2
      rw [HQ.out]
      refine ⟨by rw [HSC.out]; rfl, ?_, (Chg.of g HB.out).set 2 _⟩
      rw [HE.out]
      exact HR2.out.set _

/-- What passPreamble answers: what is wrong, how far. -/
def preP (l mk : List UInt8) : Option (Int × Int) × Nat := if Lib.hasPrefix l mk = true then (none, 0) else (bytP l mk l.length).2
set_option maxRecDepth 100000 in
set_option maxHeartbeats 1000000 in
theorem passPreamble_any (g : Nat) (s : ByteArray) (mk : List UInt8) (hs : s.size ≤ 4000000000) (hm : mk.length ≤ 4000000) (w : World) (hR : SR w g s (str mk) 0) (hw : ML w) :
    Calls Tryz.prog 67 #[.pointer (some ⟨g, 0, none⟩)] w fun e w' => e = .returned (errV (preP s.data.toList mk).1) ∧ SR w' g s (str mk) (preP s.data.toList mk).2 ∧ Chg g w w' := by
  obtain ⟨c0, c1, c2⟩ := hR.cells
  have HR : Hid (SR w g s (str mk) 0) := hR
  have hsl : s.data.toList.length = s.size := size_list s
  have HP : Hid (preP s.data.toList mk = if Lib.hasPrefix s.data.toList mk = true then (none, 0) else (bytP s.data.toList mk s.size).2) := (by unfold preP; rw [hsl] : _ = _)
  have HBy : Hid (∀ W, SR W g s (str mk) 0 → ML W → Calls _ _ _ W _) := fun W h1 h2 => bytes_any g 0 s mk (Nat.zero_le _) hs hm W h1 h2
  have HHp : Hid (∀ W, Calls Tryz.prog 96 #[.string s, .string (str mk)] W fun e w' => e = .returned (.bool (Lib.hasPrefix s.data.toList mk)) ∧ w' = W) := fun W => by
    have := Tryz.strings_HasPrefix s (str mk) W
    rw [str_list] at this
    exact this
  have HML : Hid (ML w) := hw
  rw [List.drop_zero] at HBy
  clear hR hw hsl
  generalize preP s.data.toList mk = R at *
  generalize Lib.hasPrefix s.data.toList mk = b at *
  generalize bytP s.data.toList mk s.size = Q at *
  obtain ⟨q1, q2, q3⟩ := Q
  dsimp only at HP HBy
  simp only [Nat.zero_add] at HBy
  generalize str mk = SM at *
  generalize str q1 = SQ at *
  obtain ⟨EV, hEV⟩ : ∃ EV, EV = errV q2 := ⟨_, rfl⟩
  rw [← hEV] at HBy
  have HEV : Hid (errV q2 = EV) := hEV.symm
  clear hEV
  go_enter Tryz.func67, Tryz.ntmps67
  have HB : Hid (Below w.heap.size w w.drew) := (Below.refl _ _).drew
  have HS : Hid (w.drew.cell? ⟨g, 0, none⟩ = some (.string s) ∧ w.drew.cell? ⟨g, 1, none⟩ = some (.string SM)) := ⟨c0, c1⟩
  go_wp2_with fail
  go_region_held3 (fun W => W.cell? ⟨g, 0, none⟩ = some (.string s) ∧ W.cell? ⟨g, 1, none⟩ = some (.string SM)) (first | with_reducible exact HS.out | go_keep) (first
    | (go_at_call 96; refine (HHp.out _).mono ?_; rintro e w2 ⟨rfl, hw2⟩; rw [hw2]; clear hw2))
  all_goals
    have HR2 : Hid (SR _ g s SM 0) := HR.out.below HB.out
    cases b with
    | true =>
      have HQ : Hid (R = (none, 0)) := (by rw [HP.out]; simp : R = _)
      have HB2 : Hid (Chg g w w.drew) := Chg.of g HB.out
      go_wp2
      go_ret
      rw [HQ.out]
      exact ⟨rfl, HR2.out, HB2.out⟩
    | false =>
      have HQ : Hid (R = (q2, q3)) := (by rw [HP.out]; simp : R = _)
      go_wp2_with fail
      refine (HBy.out _ HR2.out (HML.out.below HB.out)).mono ?_
      rintro e w3 ⟨rfl, hr3, hc3⟩
      have HR3 : Hid (SR w3 g s SM q3) := hr3
      have HC3 : Hid (Chg g w w3) := (Chg.of g HB.out).trans hc3
      clear hr3 hc3
      go_wp2
      go_ret
      rw [HQ.out]
      exact ⟨by rw [HEV.out]; rfl, HR3.out, HC3.out⟩

end Sr
end Go.Proofs.YtlnlhhobmgiceaaGreatDoor
