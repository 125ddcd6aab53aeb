/-
  target: parseAuthority, parseAbsolute, Parse (written by mkgps.py).
-/
import Derived.Test.YtpnijigjlhfklaaGreatDoorGHi
import Derived.Test.YtpnijigjlhfklaaGreatDoorGIx
set_option linter.unusedVariables false
set_option linter.unusedSimpArgs false
set_option maxRecDepth 100000
namespace Go.Proofs.YtpnijigjlhfklaaGreatDoor
open Go.RowKit Go.Shelf
namespace Tg
open Oc

/-- What Parse answers: the target, the place, the error. -/
structure PRes where
  form : Int
  host : List UInt8
  port : Int
  path : List UInt8
  query : List UInt8
  hasq : Bool
  place : Int
  err : Int
def prV (r : PRes) : Array Value := #[tgt r.form r.host r.port r.path r.query r.hasq, .int .i64 r.place, .int .i64 r.err]
def wrongP (place err : Int) : PRes := ⟨0, [], 0, [], [], false, place, err⟩
def placeP (form port : Int) (host l : List UInt8) (k : Nat) : PRes :=
  if (placeR (l.drop k)).2 ≠ 0 then wrongP (((k + (placeR (l.drop k)).1 : Nat)) : Int) (placeR (l.drop k)).2
  else ⟨form, host, port, slashed (cutA 63 (l.drop k)), cutB 63 (l.drop k), has 63 (l.drop k), 0, 0⟩
def conP (l : List UInt8) : PRes := if (authP l).2.2 ≠ 0 ∨ (authP l).2.1 = -1 then wrongP 0 52 else ⟨3, (authP l).1, (authP l).2.1, [], [], false, 0, 0⟩
def absT (l : List UInt8) : List UInt8 := (l.drop 7).take (hdLen (l.drop 7))
def absP (l : List UInt8) : PRes :=
  if (authP (absT l)).2.2 ≠ 0 then wrongP 7 (authP (absT l)).2.2 else placeP 2 (authP (absT l)).2.1 (authP (absT l)).1 l (7 + hdLen (l.drop 7))
def conL : List UInt8 := [67, 79, 78, 78, 69, 67, 84]
def optL : List UInt8 := [79, 80, 84, 73, 79, 78, 83]
def httpL : List UInt8 := [104, 116, 116, 112, 58, 47, 47]
def parP (m l : List UInt8) : PRes :=
  if l = [] then wrongP 0 50
  else if m = conL then conP l
  else if l.head? = some 47 then placeP 1 (-1) [] l 0
  else if m = optL ∧ l = [42] then ⟨4, [], -1, [], [], false, 0, 0⟩
  else if l.length < 7 ∨ lower (l.take 7) ≠ httpL then wrongP 0 50
  else absP l

theorem parsePlace_p (form port : Int) (host p0 q0 : List UInt8) (h0 : Bool) (s : ByteArray) (hs : s.size ≤ 4000000000) (k : Nat) (hk : k ≤ s.size) (w : World) (hm : ML w) :
    Calls Tryz.prog 21 #[.agg #[.int .i64 form, .string (str host), .int .i64 port, .string (str p0), .string (str q0), .bool h0], .string s, .int .i64 (k : Int)] w fun e w' => e = .returned (.tuple (prV (placeP form port host s.data.toList k))) ∧ Below w.heap.size w w' := by
  refine (parsePlace_any form port host p0 q0 h0 s hs k hk w hm).mono ?_
  rintro e w' ⟨rfl, hb⟩
  refine ⟨?_, hb⟩
  unfold placeP
  by_cases h : (placeR (s.data.toList.drop k)).2 ≠ 0
  · rw [if_pos h, if_pos h]; rfl
  · rw [if_neg h, if_neg h]; rfl


set_option maxHeartbeats 4000000 in
theorem parseAuthority_any (s : ByteArray) (hs : s.size ≤ 4000000) (w : World) (he : HE w) :
    Calls Tryz.prog 20 #[.string s] w fun e w' => e = .returned (.tuple (prV (conP s.data.toList))) ∧ Below w.heap.size w w' := by
  have HA : Hid (∀ w, HE w → _) := fun w h => Authority_any s hs w h
  obtain ⟨w2, hw2⟩ : ∃ w2, w2 = w.alloc (.cells #[.int .i64 0, .string ⟨#[]⟩, .int .i64 0, .string ⟨#[]⟩, .string ⟨#[]⟩, .bool false] 23) := ⟨_, rfl⟩
  have R1 : w2.heap[w.heap.size]? = some (.cells #[.int .i64 0, .string ⟨#[]⟩, .int .i64 0, .string ⟨#[]⟩, .string ⟨#[]⟩, .bool false] 23 (0, 0)) := by rw [hw2]; exact World.alloc_heap_new w _
  have hb2 : Below w.heap.size w w2 := by rw [hw2]; exact (Below.refl _ w).alloc (Nat.le_refl _) _
  have hz2 : w2.heap.size = w.heap.size + 1 := by rw [hw2]; simp
  have HR1 : Hid (_) := R1
  have HB2 : Hid (Below w.heap.size w w2) := hb2
  have HE2 : Hid (HE w2) := he.below hb2
  clear R1 hb2 he
  unfold conP
  generalize authP s.data.toList = R at *
  obtain ⟨r1, r2, r3⟩ := R
  dsimp only at HA ⊢
  by_cases h3 : r3 = 0
  · subst h3
    by_cases h2 : r2 = -1
    · subst h2
      rw [if_pos (.inr rfl)]
      go_enter Tryz.func20, Tryz.ntmps20
      go_wp2_with fail
      rw [← hw2]
      refine (HA.out _ HE2.out).mono ?_
      rintro e w3 ⟨rfl, hb3⟩
      have HB3 : Hid (Below w2.heap.size w2 w3) := hb3
      clear hb3
      have R1 := (HB3.out.block _ (show w.heap.size < _ by omega)).trans HR1.out
      have c0 := Lib.cell_of_heap R1 0
      have c1 := Lib.cell_of_heap R1 1
      have c2 := Lib.cell_of_heap R1 2
      have c3 := Lib.cell_of_heap R1 3
      have c4 := Lib.cell_of_heap R1 4
      have c5 := Lib.cell_of_heap R1 5
      have f0 := Lib.frozen_of_heap R1 0
      have f1 := Lib.frozen_of_heap R1 1
      have f2 := Lib.frozen_of_heap R1 2
      have f3 := Lib.frozen_of_heap R1 3
      have f4 := Lib.frozen_of_heap R1 4
      have f5 := Lib.frozen_of_heap R1 5
      simp at c0 c1 c2 c3 c4 c5
      clear R1
      go_wp2
      refine bodyPost_ret (v := .tuple #[.agg #[.int .i64 0, .string ⟨#[]⟩, .int .i64 0, .string ⟨#[]⟩, .string ⟨#[]⟩, .bool false], .int .i64 0, .int .i64 52]) (by simp [results, Tryz.results20, go_sem, c0, c1, c2, c3, c4, c5]) rfl ?_
      exact ⟨rfl, (Below.setCell (p := ⟨w.heap.size, 5, none⟩) (Below.setCell (p := ⟨w.heap.size, 4, none⟩) (Below.setCell (p := ⟨w.heap.size, 3, none⟩) (Below.setCell (p := ⟨w.heap.size, 2, none⟩) (Below.setCell (p := ⟨w.heap.size, 1, none⟩) (Below.setCell (p := ⟨w.heap.size, 0, none⟩) (HB2.out.trans (HB3.out.mono (by omega))) (by simp) _) (by simp) _) (by simp) _) (by simp) _) (by simp) _) (by simp) _)⟩
    · rw [if_neg (fun e => e.elim (fun e => e rfl) h2)]
      have h2' : (r2 == -1) = false := by simp [h2]
      go_enter Tryz.func20, Tryz.ntmps20
      go_wp2_with fail
      rw [← hw2]
      refine (HA.out _ HE2.out).mono ?_
      rintro e w3 ⟨rfl, hb3⟩
      have HB3 : Hid (Below w2.heap.size w2 w3) := hb3
      clear hb3
      have R1 := (HB3.out.block _ (show w.heap.size < _ by omega)).trans HR1.out
      have c0 := Lib.cell_of_heap R1 0
      have c1 := Lib.cell_of_heap R1 1
      have c2 := Lib.cell_of_heap R1 2
      have c3 := Lib.cell_of_heap R1 3
      have c4 := Lib.cell_of_heap R1 4
      have c5 := Lib.cell_of_heap R1 5
      have f0 := Lib.frozen_of_heap R1 0
      have f1 := Lib.frozen_of_heap R1 1
      have f2 := Lib.frozen_of_heap R1 2
      have f3 := Lib.frozen_of_heap R1 3
      have f4 := Lib.frozen_of_heap R1 4
      have f5 := Lib.frozen_of_heap R1 5
      simp at c0 c1 c2 c3 c4 c5
      clear R1
      go_wp2
      refine bodyPost_ret (v := .tuple #[.agg #[.int .i64 3, .string (str r1), .int .i64 r2, .string ⟨#[]⟩, .string ⟨#[]⟩, .bool false], .int .i64 0, .int .i64 0]) (by simp [results, Tryz.results20, go_sem, c0, c1, c2, c3, c4, c5]) rfl ?_
      exact ⟨rfl, (Below.setCell (p := ⟨w.heap.size, 5, none⟩) (Below.setCell (p := ⟨w.heap.size, 4, none⟩) (Below.setCell (p := ⟨w.heap.size, 3, none⟩) (Below.setCell (p := ⟨w.heap.size, 2, none⟩) (Below.setCell (p := ⟨w.heap.size, 1, none⟩) (Below.setCell (p := ⟨w.heap.size, 0, none⟩) (HB2.out.trans (HB3.out.mono (by omega))) (by simp) _) (by simp) _) (by simp) _) (by simp) _) (by simp) _) (by simp) _)⟩
  · rw [if_pos (.inl h3)]
    have h3' : (r3 == 0) = false := by simp [h3]
    go_enter Tryz.func20, Tryz.ntmps20
    go_wp2_with fail
    rw [← hw2]
    refine (HA.out _ HE2.out).mono ?_
    rintro e w3 ⟨rfl, hb3⟩
    have HB3 : Hid (Below w2.heap.size w2 w3) := hb3
    clear hb3
    have R1 := (HB3.out.block _ (show w.heap.size < _ by omega)).trans HR1.out
    have c0 := Lib.cell_of_heap R1 0
    have c1 := Lib.cell_of_heap R1 1
    have c2 := Lib.cell_of_heap R1 2
    have c3 := Lib.cell_of_heap R1 3
    have c4 := Lib.cell_of_heap R1 4
    have c5 := Lib.cell_of_heap R1 5
    have f0 := Lib.frozen_of_heap R1 0
    have f1 := Lib.frozen_of_heap R1 1
    have f2 := Lib.frozen_of_heap R1 2
    have f3 := Lib.frozen_of_heap R1 3
    have f4 := Lib.frozen_of_heap R1 4
    have f5 := Lib.frozen_of_heap R1 5
    simp at c0 c1 c2 c3 c4 c5
    clear R1
    go_wp2
    refine bodyPost_ret (v := .tuple #[.agg #[.int .i64 0, .string ⟨#[]⟩, .int .i64 0, .string ⟨#[]⟩, .string ⟨#[]⟩, .bool false], .int .i64 0, .int .i64 52]) (by simp [results, Tryz.results20, go_sem, c0, c1, c2, c3, c4, c5]) rfl ?_
    exact ⟨rfl, (Below.setCell (p := ⟨w.heap.size, 5, none⟩) (Below.setCell (p := ⟨w.heap.size, 4, none⟩) (Below.setCell (p := ⟨w.heap.size, 3, none⟩) (Below.setCell (p := ⟨w.heap.size, 2, none⟩) (Below.setCell (p := ⟨w.heap.size, 1, none⟩) (Below.setCell (p := ⟨w.heap.size, 0, none⟩) (HB2.out.trans (HB3.out.mono (by omega))) (by simp) _) (by simp) _) (by simp) _) (by simp) _) (by simp) _) (by simp) _)⟩

set_option maxHeartbeats 4000000 in
theorem parseAbsolute_any (s : ByteArray) (hs : s.size ≤ 4000000) (h7 : 7 ≤ s.size) (w : World) (he : HE w) :
    Calls Tryz.prog 23 #[.string s] w fun e w' => e = .returned (.tuple (prV (absP s.data.toList))) ∧ Below w.heap.size w w' := by
  have hx : (s.extract 7 s.size).data.toList = s.data.toList.drop 7 := Lib.extract_to_end s 7
  have hxz : (s.extract 7 s.size).size = s.size - 7 := by rw [ByteArray.size_extract]; omega
  have HI : Hid (∀ w, Calls Tryz.prog 47 #[.string (s.extract 7 s.size), .string ⟨#[47, 63]⟩] w fun e w' => e = .returned (.int .i64 (idxE (s.data.toList.drop 7))) ∧ Below w.heap.size w w') := fun w => by
    have := IndexAny_any (s.extract 7 s.size) (by omega) w
    rw [hx] at this
    exact this
  have hdl : (s.data.toList.drop 7).length = s.size - 7 := by rw [List.length_drop, size_list]
  have hle := hd_le (s.data.toList.drop 7)
  rw [hdl] at hle
  have HAu : Hid (∀ (t : ByteArray), t.size ≤ 4000000 → t.data.toList = absT s.data.toList → ∀ w, HE w → Calls Tryz.prog 44 #[.string t] w fun e w' => e = .returned (.tuple #[.string (str (authP (absT s.data.toList)).1), .int .i64 (authP (absT s.data.toList)).2.1, .int .i64 (authP (absT s.data.toList)).2.2]) ∧ Below w.heap.size w w') := fun t ht e w h => by
    have := Authority_any t ht w h
    rw [e] at this
    exact this
  have HPl : Hid (∀ (port : Int) (host : List UInt8) w, ML w → _) := fun port host w h => parsePlace_p 2 port host [] [] false s (by omega) (7 + hdLen (s.data.toList.drop 7)) (by omega) w h
  obtain ⟨w2, hw2⟩ : ∃ w2, w2 = w.alloc (.cells #[.int .i64 0, .string ⟨#[]⟩, .int .i64 0, .string ⟨#[]⟩, .string ⟨#[]⟩, .bool false] 23) := ⟨_, rfl⟩
  have R1 : w2.heap[w.heap.size]? = some (.cells #[.int .i64 0, .string ⟨#[]⟩, .int .i64 0, .string ⟨#[]⟩, .string ⟨#[]⟩, .bool false] 23 (0, 0)) := by rw [hw2]; exact World.alloc_heap_new w _
  have hb2 : Below w.heap.size w w2 := by rw [hw2]; exact (Below.refl _ w).alloc (Nat.le_refl _) _
  have hz2 : w2.heap.size = w.heap.size + 1 := by rw [hw2]; simp
  have HR1 : Hid (_) := R1
  have HB2 : Hid (Below w.heap.size w w2) := hb2
  have HE2 : Hid (HE w2) := he.below hb2
  clear R1 hb2 he
  unfold absP
  have HT : Hid (absT s.data.toList = (s.data.toList.drop 7).take (hdLen (s.data.toList.drop 7))) := (rfl : _ = _)
  generalize absT s.data.toList = AT at *
  generalize authP AT = R at *
  obtain ⟨r1, r2, r3⟩ := R
  dsimp only at HAu ⊢
  by_cases hall : hdLen (s.data.toList.drop 7) = (s.data.toList.drop 7).length
  · rw [idxE_all _ hall] at HI
    have HA : Hid (∀ w, HE w → _) := fun w h => HAu.out (s.extract 7 s.size) (by omega) (by rw [hx, HT.out, hall, List.take_length]) w h
    have hts : (s.extract 7 s.size).size = hdLen (s.data.toList.drop 7) := by rw [hxz, hall, hdl]
    have HPl' : Hid (∀ w, ML w → Calls Tryz.prog 21 #[.agg #[.int .i64 2, .string (str r1), .int .i64 r2, .string ⟨#[]⟩, .string ⟨#[]⟩, .bool false], .string s, .int .i64 ((7 + hdLen (s.data.toList.drop 7) : Nat) : Int)] w fun e w' => e = .returned (.tuple (prV (placeP 2 r2 r1 s.data.toList (7 + hdLen (s.data.toList.drop 7))))) ∧ Below w.heap.size w w') := fun w h => HPl.out r2 r1 w h
    clear HPl HAu HT
    generalize placeP 2 r2 r1 s.data.toList (7 + hdLen (s.data.toList.drop 7)) = Q at *
    generalize hdLen (s.data.toList.drop 7) = d at *
    have hadd : IntKind.i64.wrap (7 + (d : Int)) = ((7 + d : Nat) : Int) := by rw [IntKind.wrap_i64]; omega
    have hd0 : (0 : Int) ≤ (d : Int) := by omega
    have hd1 : (d : Int) ≤ ((s.extract 7 s.size).size : Int) := by omega
    rw [show ((7 + d : Nat) : Int) = 7 + ((s.size - 7 : Nat) : Int) by omega] at HPl'
    skip
    by_cases h3 : r3 = 0
    · subst h3
      rw [if_neg (fun e => e rfl)]
      go_enter Tryz.func23, Tryz.ntmps23
      go_wp2_with fail
      rw [← hw2]
      refine (HI.out _).mono ?_
      rintro e w3 ⟨rfl, hb3⟩
      have HB3 : Hid (Below w2.heap.size w2 w3) := hb3
      have HE3 : Hid (HE w3) := HE2.out.below hb3
      clear hb3
      go_wp2_with fail
      refine (HA.out _ HE3.out).mono ?_
      rintro e w4 ⟨rfl, hb4⟩
      have HB4 : Hid (Below w2.heap.size w2 w4) := bel_trans HB3.out hb4
      have HE4 : Hid (HE w4) := HE3.out.below hb4
      clear hb4
      go_wp2_with fail
      skip
      refine (HPl'.out _ ?_).mono ?_
      · exact (HE4.out.below ((Below.refl _ w4).alloc (Nat.le_refl _) _)).1
      rintro e w6 ⟨rfl, hb6⟩
      have HB6 : Hid (Below w2.heap.size w2 w6) := HB4.out.trans (((Below.refl _ w4).alloc (Nat.le_refl _) _ |>.trans (hb6.mono (by simp))).mono HB4.out.size)
      clear hb6
      obtain ⟨q1, q2, q3, q4, q5, q6, q7, q8⟩ := Q
      unfold prV tgt
      dsimp only
      have R1 := (HB6.out.block _ (show w.heap.size < _ by omega)).trans HR1.out
      have c0 := Lib.cell_of_heap R1 0
      have c1 := Lib.cell_of_heap R1 1
      have c2 := Lib.cell_of_heap R1 2
      have c3 := Lib.cell_of_heap R1 3
      have c4 := Lib.cell_of_heap R1 4
      have c5 := Lib.cell_of_heap R1 5
      have f0 := Lib.frozen_of_heap R1 0
      have f1 := Lib.frozen_of_heap R1 1
      have f2 := Lib.frozen_of_heap R1 2
      have f3 := Lib.frozen_of_heap R1 3
      have f4 := Lib.frozen_of_heap R1 4
      have f5 := Lib.frozen_of_heap R1 5
      simp at c0 c1 c2 c3 c4 c5
      clear R1
      go_wp2
      refine bodyPost_ret (v := .tuple #[.agg #[.int .i64 q1, .string (str q2), .int .i64 q3, .string (str q4), .string (str q5), .bool q6], .int .i64 q7, .int .i64 q8]) (by simp [results, Tryz.results23, go_sem, c0, c1, c2, c3, c4, c5]) rfl ?_
      exact ⟨rfl, (Below.setCell (p := ⟨w.heap.size, 5, none⟩) (Below.setCell (p := ⟨w.heap.size, 4, none⟩) (Below.setCell (p := ⟨w.heap.size, 3, none⟩) (Below.setCell (p := ⟨w.heap.size, 2, none⟩) (Below.setCell (p := ⟨w.heap.size, 1, none⟩) (Below.setCell (p := ⟨w.heap.size, 0, none⟩) (HB2.out.trans (HB6.out.mono (by omega))) (by simp) _) (by simp) _) (by simp) _) (by simp) _) (by simp) _) (by simp) _)⟩
    · rw [if_pos h3]
      have h3' : (r3 == 0) = false := by simp [h3]
      go_enter Tryz.func23, Tryz.ntmps23
      go_wp2_with fail
      rw [← hw2]
      refine (HI.out _).mono ?_
      rintro e w3 ⟨rfl, hb3⟩
      have HB3 : Hid (Below w2.heap.size w2 w3) := hb3
      have HE3 : Hid (HE w3) := HE2.out.below hb3
      clear hb3
      go_wp2_with fail
      refine (HA.out _ HE3.out).mono ?_
      rintro e w4 ⟨rfl, hb4⟩
      have HB4 : Hid (Below w2.heap.size w2 w4) := bel_trans HB3.out hb4
      have HE4 : Hid (HE w4) := HE3.out.below hb4
      clear hb4
      have R1 := (HB4.out.block _ (show w.heap.size < _ by omega)).trans HR1.out
      have c0 := Lib.cell_of_heap R1 0
      have c1 := Lib.cell_of_heap R1 1
      have c2 := Lib.cell_of_heap R1 2
      have c3 := Lib.cell_of_heap R1 3
      have c4 := Lib.cell_of_heap R1 4
      have c5 := Lib.cell_of_heap R1 5
      have f0 := Lib.frozen_of_heap R1 0
      have f1 := Lib.frozen_of_heap R1 1
      have f2 := Lib.frozen_of_heap R1 2
      have f3 := Lib.frozen_of_heap R1 3
      have f4 := Lib.frozen_of_heap R1 4
      have f5 := Lib.frozen_of_heap R1 5
      simp at c0 c1 c2 c3 c4 c5
      clear R1
      go_wp2
      refine bodyPost_ret (v := .tuple #[.agg #[.int .i64 0, .string ⟨#[]⟩, .int .i64 0, .string ⟨#[]⟩, .string ⟨#[]⟩, .bool false], .int .i64 7, .int .i64 r3]) (by simp [results, Tryz.results23, go_sem, c0, c1, c2, c3, c4, c5]) rfl ?_
      exact ⟨rfl, (Below.setCell (p := ⟨w.heap.size, 5, none⟩) (Below.setCell (p := ⟨w.heap.size, 4, none⟩) (Below.setCell (p := ⟨w.heap.size, 3, none⟩) (Below.setCell (p := ⟨w.heap.size, 2, none⟩) (Below.setCell (p := ⟨w.heap.size, 1, none⟩) (Below.setCell (p := ⟨w.heap.size, 0, none⟩) (HB2.out.trans (HB4.out.mono (by omega))) (by simp) _) (by simp) _) (by simp) _) (by simp) _) (by simp) _) (by simp) _)⟩
  · have hat : hdLen (s.data.toList.drop 7) < (s.data.toList.drop 7).length := by omega
    rw [idxE_at _ hat] at HI
    have HA : Hid (∀ w, HE w → _) := fun w h => HAu.out ((s.extract 7 s.size).extract 0 (hdLen (s.data.toList.drop 7))) (by rw [ByteArray.size_extract]; omega) (by rw [Lib.extract_from_zero, hx, HT.out]) w h
    have hts : ((s.extract 7 s.size).extract 0 (hdLen (s.data.toList.drop 7))).size = hdLen (s.data.toList.drop 7) := by rw [ByteArray.size_extract]; omega
    have HPl' : Hid (∀ w, ML w → Calls Tryz.prog 21 #[.agg #[.int .i64 2, .string (str r1), .int .i64 r2, .string ⟨#[]⟩, .string ⟨#[]⟩, .bool false], .string s, .int .i64 ((7 + hdLen (s.data.toList.drop 7) : Nat) : Int)] w fun e w' => e = .returned (.tuple (prV (placeP 2 r2 r1 s.data.toList (7 + hdLen (s.data.toList.drop 7))))) ∧ Below w.heap.size w w') := fun w h => HPl.out r2 r1 w h
    clear HPl HAu HT
    generalize placeP 2 r2 r1 s.data.toList (7 + hdLen (s.data.toList.drop 7)) = Q at *
    generalize hdLen (s.data.toList.drop 7) = d at *
    have hadd : IntKind.i64.wrap (7 + (d : Int)) = ((7 + d : Nat) : Int) := by rw [IntKind.wrap_i64]; omega
    have hd0 : (0 : Int) ≤ (d : Int) := by omega
    have hd1 : (d : Int) ≤ ((s.extract 7 s.size).size : Int) := by omega
    rw [show ((7 + d : Nat) : Int) = 7 + (d : Int) by omega] at HPl'
    generalize ((s.extract 7 s.size).extract 0 (hdLen (s.data.toList.drop 7))) = t at *
    by_cases h3 : r3 = 0
    · subst h3
      rw [if_neg (fun e => e rfl)]
      go_enter Tryz.func23, Tryz.ntmps23
      go_wp2_with fail
      rw [← hw2]
      refine (HI.out _).mono ?_
      rintro e w3 ⟨rfl, hb3⟩
      have HB3 : Hid (Below w2.heap.size w2 w3) := hb3
      have HE3 : Hid (HE w3) := HE2.out.below hb3
      clear hb3
      go_wp2_with fail
      refine (HA.out _ HE3.out).mono ?_
      rintro e w4 ⟨rfl, hb4⟩
      have HB4 : Hid (Below w2.heap.size w2 w4) := bel_trans HB3.out hb4
      have HE4 : Hid (HE w4) := HE3.out.below hb4
      clear hb4
      go_wp2_with fail
      skip
      refine (HPl'.out _ ?_).mono ?_
      · exact (HE4.out.below ((Below.refl _ w4).alloc (Nat.le_refl _) _)).1
      rintro e w6 ⟨rfl, hb6⟩
      have HB6 : Hid (Below w2.heap.size w2 w6) := HB4.out.trans (((Below.refl _ w4).alloc (Nat.le_refl _) _ |>.trans (hb6.mono (by simp))).mono HB4.out.size)
      clear hb6
      obtain ⟨q1, q2, q3, q4, q5, q6, q7, q8⟩ := Q
      unfold prV tgt
      dsimp only
      have R1 := (HB6.out.block _ (show w.heap.size < _ by omega)).trans HR1.out
      have c0 := Lib.cell_of_heap R1 0
      have c1 := Lib.cell_of_heap R1 1
      have c2 := Lib.cell_of_heap R1 2
      have c3 := Lib.cell_of_heap R1 3
      have c4 := Lib.cell_of_heap R1 4
      have c5 := Lib.cell_of_heap R1 5
      have f0 := Lib.frozen_of_heap R1 0
      have f1 := Lib.frozen_of_heap R1 1
      have f2 := Lib.frozen_of_heap R1 2
      have f3 := Lib.frozen_of_heap R1 3
      have f4 := Lib.frozen_of_heap R1 4
      have f5 := Lib.frozen_of_heap R1 5
      simp at c0 c1 c2 c3 c4 c5
      clear R1
      go_wp2
      refine bodyPost_ret (v := .tuple #[.agg #[.int .i64 q1, .string (str q2), .int .i64 q3, .string (str q4), .string (str q5), .bool q6], .int .i64 q7, .int .i64 q8]) (by simp [results, Tryz.results23, go_sem, c0, c1, c2, c3, c4, c5]) rfl ?_
      exact ⟨rfl, (Below.setCell (p := ⟨w.heap.size, 5, none⟩) (Below.setCell (p := ⟨w.heap.size, 4, none⟩) (Below.setCell (p := ⟨w.heap.size, 3, none⟩) (Below.setCell (p := ⟨w.heap.size, 2, none⟩) (Below.setCell (p := ⟨w.heap.size, 1, none⟩) (Below.setCell (p := ⟨w.heap.size, 0, none⟩) (HB2.out.trans (HB6.out.mono (by omega))) (by simp) _) (by simp) _) (by simp) _) (by simp) _) (by simp) _) (by simp) _)⟩
    · rw [if_pos h3]
      have h3' : (r3 == 0) = false := by simp [h3]
      go_enter Tryz.func23, Tryz.ntmps23
      go_wp2_with fail
      rw [← hw2]
      refine (HI.out _).mono ?_
      rintro e w3 ⟨rfl, hb3⟩
      have HB3 : Hid (Below w2.heap.size w2 w3) := hb3
      have HE3 : Hid (HE w3) := HE2.out.below hb3
      clear hb3
      go_wp2_with fail
      refine (HA.out _ HE3.out).mono ?_
      rintro e w4 ⟨rfl, hb4⟩
      have HB4 : Hid (Below w2.heap.size w2 w4) := bel_trans HB3.out hb4
      have HE4 : Hid (HE w4) := HE3.out.below hb4
      clear hb4
      have R1 := (HB4.out.block _ (show w.heap.size < _ by omega)).trans HR1.out
      have c0 := Lib.cell_of_heap R1 0
      have c1 := Lib.cell_of_heap R1 1
      have c2 := Lib.cell_of_heap R1 2
      have c3 := Lib.cell_of_heap R1 3
      have c4 := Lib.cell_of_heap R1 4
      have c5 := Lib.cell_of_heap R1 5
      have f0 := Lib.frozen_of_heap R1 0
      have f1 := Lib.frozen_of_heap R1 1
      have f2 := Lib.frozen_of_heap R1 2
      have f3 := Lib.frozen_of_heap R1 3
      have f4 := Lib.frozen_of_heap R1 4
      have f5 := Lib.frozen_of_heap R1 5
      simp at c0 c1 c2 c3 c4 c5
      clear R1
      go_wp2
      refine bodyPost_ret (v := .tuple #[.agg #[.int .i64 0, .string ⟨#[]⟩, .int .i64 0, .string ⟨#[]⟩, .string ⟨#[]⟩, .bool false], .int .i64 7, .int .i64 r3]) (by simp [results, Tryz.results23, go_sem, c0, c1, c2, c3, c4, c5]) rfl ?_
      exact ⟨rfl, (Below.setCell (p := ⟨w.heap.size, 5, none⟩) (Below.setCell (p := ⟨w.heap.size, 4, none⟩) (Below.setCell (p := ⟨w.heap.size, 3, none⟩) (Below.setCell (p := ⟨w.heap.size, 2, none⟩) (Below.setCell (p := ⟨w.heap.size, 1, none⟩) (Below.setCell (p := ⟨w.heap.size, 0, none⟩) (HB2.out.trans (HB4.out.mono (by omega))) (by simp) _) (by simp) _) (by simp) _) (by simp) _) (by simp) _) (by simp) _)⟩

end Tg
end Go.Proofs.YtpnijigjlhfklaaGreatDoor
