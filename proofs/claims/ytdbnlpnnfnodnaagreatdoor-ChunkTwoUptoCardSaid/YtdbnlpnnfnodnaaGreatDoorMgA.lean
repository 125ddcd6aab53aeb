/- Several texts as one. -/
import Derived.Test.YtdbnlpnnfnodnaaGreatDoorCkI
import Derived.Test.YtdbnlpnnfnodnaaGreatDoorCkM
import Derived.Test.YtdbnlpnnfnodnaaGreatDoorSameL
import Derived.Test.YtdbnlpnnfnodnaaGreatDoorFGa
/-
  A text read line by line, and byte by byte: plain.
-/
set_option linter.unusedVariables false
set_option linter.unusedSimpArgs false
set_option maxRecDepth 100000
namespace Go.Proofs.YtdbnlpnnfnodnaaGreatDoor
open Go.RowKit Go.Shelf
namespace Ck
open Oc Tg _root_.Go.Proofs.YtdbnlpnnfnodnaaGreatDoor.Fd

theorem dropG (l : List UInt8) (a j : Nat) : (l.drop a).getD j 0 = l.getD (a + j) 0 := by
  rw [List.getD_eq_getElem?_getD, List.getD_eq_getElem?_getD, List.getElem?_drop]
def noLf (l : List UInt8) : Prop := ∀ c ∈ l, c ≠ 10
def lineS (s : DS) (l : List UInt8) : DS := { s with line := s.line ++ l }
theorem eat_put0 : ∀ (l r : List UInt8) (s : DS), s.mode = 0 → noLf l → s.line.length + l.length < 256 → eat s (l ++ r) = (l.length + (eat (lineS s l) r).1, (eat (lineS s l) r).2)
  | [], r, s, hm, hn, hl => by simp [lineS]
  | c :: l, r, s, hm, hn, hl => by
    have hc : c ≠ 10 := hn c (by simp)
    simp only [List.length_cons] at hl
    have hb : bstep s c = put s c := by
      unfold bstep; rw [hm]; show inSize s c = _
      unfold inSize; rw [if_neg hc, if_neg (by omega)]
    rw [List.cons_append, eat_cons (by omega), hb, eat_put0 l r (put s c) hm (fun d hd => hn d (by simp [hd])) (by simp [put]; omega)]
    have e : lineS (put s c) l = lineS s (c :: l) := by simp [lineS, put]
    rw [e]
    simp only [List.length_cons, Prod.mk.injEq, and_true]
    omega
/-- A size line that has no end in time. -/
theorem eat_long0 (l r : List UInt8) (s : DS) (hm : s.mode = 0) (hn : noLf l) (h0 : s.line = []) (hl : l.length = 256) : eat s (l ++ r) = (256, fin s 100) := by
  obtain ⟨a, c, rfl⟩ : ∃ a c, l = a ++ [c] := by
    rcases List.eq_nil_or_concat l with h | ⟨a, c, h⟩
    · subst h; simp at hl
    · exact ⟨a, c, by simpa using h⟩
  simp only [List.length_append, List.length_cons, List.length_nil] at hl
  have hc : c ≠ 10 := hn c (by simp)
  rw [List.append_assoc, eat_put0 a _ s hm (fun d hd => hn d (by simp [hd])) (by rw [h0]; simp; omega)]
  have hm' : (lineS s a).mode = 0 := hm
  have hb : bstep (lineS s a) c = fin s 100 := by
    unfold bstep; rw [hm']; show inSize _ c = _
    unfold inSize; rw [if_neg hc, if_pos (by simp [lineS, h0]; omega)]
    rfl
  rw [List.cons_append, List.nil_append, eat_cons (by omega), hb, eat_over (by rfl)]
  simp only [Prod.mk.injEq, and_true]
  omega
/-- A size line that has not ended. -/
theorem eat_open0 (l : List UInt8) (s : DS) (hm : s.mode = 0) (hn : noLf l) (h0 : s.line = []) (hl : l.length < 256) : eat s l = (l.length, lineS s l) := by
  have h := eat_put0 l [] s hm hn (by rw [h0]; simpa using hl)
  rw [List.append_nil, eat_nil] at h
  simpa using h
/-- A size line that ends. -/
theorem eat_line0 (l r : List UInt8) (s : DS) (hm : s.mode = 0) (hn : noLf l) (h0 : s.line = []) (hl : l.length < 256) :
    eat s (l ++ 10 :: r) = (l.length + 1 + (eat (endSize (lineS s (l ++ [10]))) r).1, (eat (endSize (lineS s (l ++ [10]))) r).2) := by
  rw [eat_put0 l _ s hm hn (by rw [h0]; simpa using hl)]
  have hm' : (lineS s l).mode = 0 := hm
  have hb : bstep (lineS s l) 10 = endSize (lineS s (l ++ [10])) := by
    unfold bstep; rw [hm']; show inSize _ _ = _
    unfold inSize; rw [if_pos rfl]
    simp [lineS, put]
  rw [eat_cons (by omega), hb]
  simp only [Prod.mk.injEq, and_true]
  omega
theorem suffix_yes (k : List UInt8) : Lib.hasSuffix (k ++ [13] ++ [10]) crlf = true ∧ Lib.trimSuffix (k ++ [13] ++ [10]) crlf = k := by
  have h : Lib.hasSuffix (k ++ [13] ++ [10]) crlf = true := by
    unfold Lib.hasSuffix crlf
    rw [List.isSuffixOf_iff_suffix]
    exact ⟨k, by simp⟩
  refine ⟨h, ?_⟩
  unfold Lib.trimSuffix
  rw [if_pos h]
  simp [crlf]
theorem suffix_no (l : List UInt8) (h : ∀ k, l ≠ k ++ [13]) : Lib.hasSuffix (l ++ [10]) crlf = false := by
  unfold Lib.hasSuffix crlf
  rw [Bool.eq_false_iff]
  intro e
  rw [List.isSuffixOf_iff_suffix] at e
  obtain ⟨k, hk⟩ := e
  have : (k ++ [13]) ++ [10] = l ++ [10] := by rw [← hk]; simp
  exact h k (List.append_cancel_right this).symm
/-- Whether a line stands rightly: its bytes ahead of the last one end with a return. -/
theorem line_case (l : List UInt8) : (∃ k, l = k ++ [13]) ∨ ((∀ k, l ≠ k ++ [13]) ∧ (l = [] ∨ l.getD (l.length - 1) 0 ≠ 13)) := by
  rcases List.eq_nil_or_concat l with h | ⟨a, c, h⟩
  · subst h; right; exact ⟨fun k e => by simp at e, .inl rfl⟩
  · have h' : l = a ++ [c] := by simpa using h
    by_cases hc : c = 13
    · left; exact ⟨a, by rw [h', hc]⟩
    · right
      refine ⟨fun k e => ?_, .inr ?_⟩
      · rw [h'] at e
        have := (List.append_inj' e rfl).2
        simp at this
        exact hc this
      · rw [h']
        simp [List.getD]
        exact hc

/-- A decoder that has all but a line behind it: b the bytes of chunks so far. -/
def stS (most room fields : Int) (b : List UInt8) : DS := ⟨0, false, 0, most - b.length, room, fields, 0, 0, [], b, []⟩
theorem stS_new (most room fields : Int) : stS most room fields [] = new most room fields := by simp [stS, new]
theorem endSize_bad {s : DS} {l : List UInt8} (h0 : s.line = []) (h : ∀ k, l ≠ k ++ [13]) : endSize (lineS s (l ++ [10])) = fin s 100 := by
  unfold endSize
  rw [if_pos (by unfold right lineS; rw [h0]; exact suffix_no l h)]
  rfl
theorem endSize_yes {s : DS} {k : List UInt8} (h0 : s.line = []) : endSize (lineS s (k ++ [13] ++ [10])) = if (sizeR k).2.2 ≠ 0 then fin s (sizeR k).2.2 else if s.most < (sizeR k).1 then fin s 102 else if (sizeR k).1 = 0 then { s with mode := 4 } else { s with most := s.most - (sizeR k).1, left := (sizeR k).1, mode := 1 } := by
  have e1 : right (lineS s (k ++ [13] ++ [10])) = true := by unfold right lineS; rw [h0]; exact (suffix_yes k).1
  have e2 : said (lineS s (k ++ [13] ++ [10])) = k := by unfold said lineS; rw [h0]; exact (suffix_yes k).2
  have e3 : bare (lineS s (k ++ [13] ++ [10])) = s := by unfold bare lineS; cases s; simp at h0; subst h0; rfl
  unfold endSize
  rw [if_neg (by rw [e1]; decide), e2, e3]
  rfl
/-- Chunks: bytes of one. -/
theorem inChunk_all {most room fields : Int} {b t : List UInt8} {n : Int} (hn : (t.length : Int) = n) :
    inChunk { (stS most room fields b) with most := most - b.length - n, left := n, mode := 1 } t = { (stS most room fields (b ++ t)) with mode := 2 } := by
  unfold inChunk stS
  simp only [List.length_append]
  rw [if_pos (by omega)]
  congr 1 <;> omega
/-- Trailers: a line that has not ended, within the room. -/
theorem eat_put4 : ∀ (l r : List UInt8) (s : DS), s.mode = 4 → noLf l → (l.length : Int) ≤ s.room → eat s (l ++ r) = (l.length + (eat { (lineS s l) with room := s.room - l.length } r).1, (eat { (lineS s l) with room := s.room - l.length } r).2)
  | [], r, s, hm, hn, hl => by simp [lineS]
  | c :: l, r, s, hm, hn, hl => by
    have hc : c ≠ 10 := hn c (by simp)
    simp only [List.length_cons] at hl
    have hb0 : bstep s c = inTrailers s c := by unfold bstep; rw [hm]; rfl
    have hb : bstep s c = put { s with room := s.room - 1 } c := by
      rw [hb0]
      unfold inTrailers; rw [if_neg (by omega), if_neg hc]
    rw [List.cons_append, eat_cons (by omega), hb, eat_put4 l r (put { s with room := s.room - 1 } c) hm (fun d hd => hn d (by simp [hd])) (by simp [put]; omega)]
    have e : ({ (lineS (put { s with room := s.room - 1 } c) l) with room := (put { s with room := s.room - 1 } c).room - l.length } : DS) = { (lineS s (c :: l)) with room := s.room - (c :: l).length } := by
      simp [lineS, put]; omega
    rw [e]
    simp only [List.length_cons, Prod.mk.injEq, and_true]
    omega
/-- No room is left. -/
theorem eat_full4 (c : UInt8) (r : List UInt8) (s : DS) (hm : s.mode = 4) (h : s.room = 0) : eat s (c :: r) = (1, fin s 104) := by
  have hb : bstep s c = fin s 104 := by
    unfold bstep; rw [hm]; show inTrailers s c = _
    unfold inTrailers; rw [if_pos h]
  rw [eat_cons (by omega), hb, eat_over (by rfl)]
/-- A line of the trailer section that ends within the room. -/
theorem eat_line4 (l r : List UInt8) (s : DS) (hm : s.mode = 4) (hn : noLf l) (hl : (l.length : Int) < s.room) :
    eat s (l ++ 10 :: r) = (l.length + 1 + (eat (endTrailer { (lineS s (l ++ [10])) with room := s.room - l.length - 1 }) r).1, (eat (endTrailer { (lineS s (l ++ [10])) with room := s.room - l.length - 1 }) r).2) := by
  rw [eat_put4 l _ s hm hn (by omega)]
  have hb : bstep { (lineS s l) with room := s.room - l.length } 10 = endTrailer { (lineS s (l ++ [10])) with room := s.room - l.length - 1 } := by
    unfold bstep
    show (match s.mode with | 0 => _ | 1 => _ | 2 => _ | 3 => _ | 4 => _ | _ => _) = _
    rw [hm]; show inTrailers _ _ = _
    unfold inTrailers
    rw [if_neg (by show ¬ (s.room - l.length = 0); omega), if_pos rfl]
    simp [lineS, put]
  rw [eat_cons (by show s.mode ≠ 5; omega), hb]
  simp only [Prod.mk.injEq, and_true]
  omega
/-- A decoder at the start of a line of the trailer section: b the body, t the trailers so far, u bytes of the section gone. -/
def stT (most room fields : Int) (b : List UInt8) (t : List Fl) (u : Nat) : DS := ⟨4, false, 0, most - b.length, room - u, fields - t.length, 0, 0, [], b, t⟩
theorem stT_of (most room fields : Int) (b : List UInt8) : { (stS most room fields b) with mode := 4 } = stT most room fields b [] 0 := by simp [stT, stS]
theorem endTrailer_bad {s : DS} {l : List UInt8} {x : Int} (h0 : s.line = []) (h : ∀ k, l ≠ k ++ [13]) : endTrailer { (lineS s (l ++ [10])) with room := x } = fin { s with room := x } 101 := by
  unfold endTrailer
  rw [if_pos (by unfold right lineS; rw [h0]; exact suffix_no l h)]
  rfl
theorem endTrailer_yes {s : DS} {k : List UInt8} {x : Int} (h0 : s.line = []) : endTrailer { (lineS s (k ++ [13] ++ [10])) with room := x } = if k = [] then fin { s with room := x } 0 else if s.fields = 0 then fin { s with room := x } 104 else keep { s with room := x } k := by
  have e1 : right { (lineS s (k ++ [13] ++ [10])) with room := x } = true := by unfold right lineS; rw [h0]; exact (suffix_yes k).1
  have e2 : said { (lineS s (k ++ [13] ++ [10])) with room := x } = k := by unfold said lineS; rw [h0]; exact (suffix_yes k).2
  have e3 : bare { (lineS s (k ++ [13] ++ [10])) with room := x } = { s with room := x } := by unfold bare lineS; cases s; simp at h0; subst h0; rfl
  unfold endTrailer
  rw [if_neg (by rw [e1]; decide), e2, e3]
  rfl
def Sees (x : Nat × DS) (n : Nat) (e : Int) (d : Bool) (b : List UInt8) (t : List Fl) : Prop := x.1 = n ∧ x.2.err = e ∧ x.2.done = d ∧ x.2.body = b ∧ x.2.tr = t
theorem Sees.on {s0 s1 : DS} {L M : List UInt8} {p n : Nat} {e : Int} {d : Bool} {b : List UInt8} {t : List Fl} (h : eat s0 L = (p + (eat s1 M).1, (eat s1 M).2)) (hs : Sees (eat s1 M) n e d b t) : Sees (eat s0 L) (p + n) e d b t := by
  rw [h]
  exact ⟨by rw [hs.1], hs.2⟩
theorem eat_on {s0 s1 s2 : DS} {L M N : List UInt8} {p q : Nat} (h : eat s0 L = (p + (eat s1 M).1, (eat s1 M).2)) (hs : eat s1 M = (q + (eat s2 N).1, (eat s2 N).2)) : eat s0 L = (p + q + (eat s2 N).1, (eat s2 N).2) := by
  rw [h, hs, Nat.add_assoc]
theorem Sees.over {s : DS} (h : s.mode = 5) (r : List UInt8) : Sees (eat s r) 0 s.err s.done s.body s.tr := by
  rw [eat_over h]
  exact ⟨rfl, rfl, rfl, rfl, rfl⟩
theorem noLf_of {M : List UInt8} {k : Nat} (h : ∀ i, i < k → i < M.length → M.getD i 0 ≠ 10) : noLf (M.take k) := fun c hc => by
  obtain ⟨i, hi, rfl⟩ := List.mem_iff_getElem.1 hc
  rw [List.length_take] at hi
  have := h i (by omega) (by omega)
  rw [List.getD_eq_getElem?_getD, List.getElem?_eq_getElem (by omega)] at this
  simpa using this
theorem cut_lf {M : List UInt8} {i : Nat} (hi : i < M.length) (h10 : M.getD i 0 = 10) : M = M.take i ++ 10 :: M.drop (i + 1) := by
  rw [← h10]
  have e := List.drop_eq_getElem_cons hi
  rw [List.getD_eq_getElem?_getD, List.getElem?_eq_getElem hi]
  show M = M.take i ++ (M[i] :: M.drop (i + 1))
  rw [← e, List.take_append_drop]

/-- The state at a size line's start. -/
structure Fresh (s : DS) : Prop where
  line : s.line = []
  done : s.done = false
  err : s.err = 0
theorem open0_long {s : DS} {M : List UInt8} (hm : s.mode = 0) (hf : Fresh s) (hn : ∀ i, i < 256 → i < M.length → M.getD i 0 ≠ 10) (hl : 255 < M.length) : Sees (eat s M) 256 100 false s.body s.tr := by
  have h := eat_long0 (M.take 256) (M.drop 256) s hm (noLf_of hn) hf.line (by rw [List.length_take]; omega)
  rw [List.take_append_drop] at h
  rw [h]
  exact ⟨rfl, rfl, rfl, rfl, rfl⟩
theorem open0_short {s : DS} {M : List UInt8} (hm : s.mode = 0) (hf : Fresh s) (hn : ∀ i, i < 256 → i < M.length → M.getD i 0 ≠ 10) (hl : ¬ 255 < M.length) : Sees (eat s M) M.length 0 false s.body s.tr := by
  have h1 : noLf M := by
    have := noLf_of (M := M) (k := M.length) (fun i h1 h2 => hn i (by omega) h2)
    rwa [List.take_length] at this
  rw [eat_open0 M s hm h1 hf.line (by omega)]
  exact ⟨rfl, hf.err, hf.done, rfl, rfl⟩
theorem line0_bad {s : DS} {l r : List UInt8} (hm : s.mode = 0) (hf : Fresh s) (hn : noLf l) (hl : l.length < 256) (h : ∀ k, l ≠ k ++ [13]) : Sees (eat s (l ++ 10 :: r)) (l.length + 1) 100 false s.body s.tr := by
  rw [eat_line0 l r s hm hn hf.line hl, endSize_bad hf.line h, eat_over (by rfl)]
  exact ⟨rfl, rfl, rfl, rfl, rfl⟩
theorem line0_err {s : DS} {l k r : List UInt8} (hm : s.mode = 0) (hf : Fresh s) (hn : noLf l) (hl : l.length < 256) (h : l = k ++ [13]) (he : (sizeR k).2.2 ≠ 0) : Sees (eat s (l ++ 10 :: r)) (l.length + 1) (sizeR k).2.2 false s.body s.tr := by
  rw [eat_line0 l r s hm hn hf.line hl, h, endSize_yes hf.line, if_pos he, eat_over (by rfl)]
  refine ⟨rfl, rfl, ?_, rfl, rfl⟩
  simpa [fin] using he
theorem line0_much {s : DS} {l k r : List UInt8} (hm : s.mode = 0) (hf : Fresh s) (hn : noLf l) (hl : l.length < 256) (h : l = k ++ [13]) (he : (sizeR k).2.2 = 0) (hb : s.most < (sizeR k).1) : Sees (eat s (l ++ 10 :: r)) (l.length + 1) 102 false s.body s.tr := by
  rw [eat_line0 l r s hm hn hf.line hl, h, endSize_yes hf.line, if_neg (by rw [he]; decide), if_pos hb, eat_over (by rfl)]
  exact ⟨rfl, rfl, rfl, rfl, rfl⟩
theorem line0_last {s : DS} {l k r : List UInt8} (hm : s.mode = 0) (hf : Fresh s) (hn : noLf l) (hl : l.length < 256) (h : l = k ++ [13]) (he : (sizeR k).2.2 = 0) (hb : ¬ s.most < (sizeR k).1) (hz : (sizeR k).1 = 0) :
    eat s (l ++ 10 :: r) = (l.length + 1 + (eat { s with mode := 4 } r).1, (eat { s with mode := 4 } r).2) := by
  rw [eat_line0 l r s hm hn hf.line hl, h, endSize_yes hf.line, if_neg (by rw [he]; decide), if_neg hb, if_pos hz]
theorem line0_chunk {s : DS} {l k r : List UInt8} (hm : s.mode = 0) (hf : Fresh s) (hn : noLf l) (hl : l.length < 256) (h : l = k ++ [13]) (he : (sizeR k).2.2 = 0) (hb : ¬ s.most < (sizeR k).1) (hz : (sizeR k).1 ≠ 0) :
    eat s (l ++ 10 :: r) = (l.length + 1 + (eat { s with most := s.most - (sizeR k).1, left := (sizeR k).1, mode := 1 } r).1, (eat { s with most := s.most - (sizeR k).1, left := (sizeR k).1, mode := 1 } r).2) := by
  rw [eat_line0 l r s hm hn hf.line hl, h, endSize_yes hf.line, if_neg (by rw [he]; decide), if_neg hb, if_neg hz]
theorem eat_chunk' : ∀ (t r : List UInt8) (s : DS), s.mode = 1 → t ≠ [] → (t.length : Int) ≤ s.left → eat s (t ++ r) = (t.length + (eat (inChunk s t) r).1, (eat (inChunk s t) r).2)
  | [], r, s, hm, h0, hl => absurd rfl h0
  | [c], r, s, hm, h0, hl => by
    have hb : bstep s c = inChunk s [c] := by unfold bstep; rw [hm]; rfl
    rw [List.cons_append, List.nil_append, eat_cons (by omega), hb]
    simp only [List.length_cons, List.length_nil, Prod.mk.injEq, and_true]
    omega
  | c :: d :: t, r, s, hm, h0, hl => by
    have hb : bstep s c = inChunk s [c] := by unfold bstep; rw [hm]; rfl
    simp only [List.length_cons] at hl
    have hm1 : (inChunk s [c]).mode = 1 := by
      unfold inChunk
      show (if s.left - (([c] : List UInt8).length : Int) = 0 then 2 else 1) = 1
      rw [if_neg (by simp; omega)]
    have e : inChunk (inChunk s [c]) (d :: t) = inChunk s (c :: d :: t) := by
      unfold inChunk
      simp only [List.length_cons, List.length_nil, List.append_assoc, List.cons_append, List.nil_append]
      congr 1
      · congr 1
        rw [eq_iff_iff]
        omega
      · omega
    rw [List.cons_append, eat_cons (by omega), hb, eat_chunk' (d :: t) r (inChunk s [c]) hm1 (by simp) (by simp [inChunk]; omega), e]
    simp only [List.length_cons, Prod.mk.injEq, and_true]
    omega
/-- Behind a chunk: k of the two bytes of its end are there. -/
def stK (most room fields : Int) (b : List UInt8) (k : Nat) : DS := { (stS most room fields b) with mode := if k = 0 then 2 else if k = 1 then 3 else 0 }
theorem stK_two (most room fields : Int) (b : List UInt8) : stK most room fields b 2 = stS most room fields b := by simp [stK, stS]
theorem chunk_all {most room fields : Int} {b t r : List UInt8} {n : Int} (hn : (t.length : Int) = n) (h0 : t ≠ []) :
    eat { (stS most room fields b) with most := (stS most room fields b).most - n, left := n, mode := 1 } (t ++ r) = (t.length + (eat (stK most room fields (b ++ t) 0) r).1, (eat (stK most room fields (b ++ t) 0) r).2) := by
  rw [eat_chunk' t r _ rfl h0 (by show (t.length : Int) ≤ n; omega)]
  have e : inChunk { (stS most room fields b) with most := (stS most room fields b).most - n, left := n, mode := 1 } t = stK most room fields (b ++ t) 0 := inChunk_all hn
  rw [e]
theorem chunk_part {most room fields : Int} {b t : List UInt8} {n : Int} (hn : (t.length : Int) < n) :
    Sees (eat { (stS most room fields b) with most := (stS most room fields b).most - n, left := n, mode := 1 } t) t.length 0 false (b ++ t) [] := by
  by_cases h0 : t = []
  · subst h0
    rw [eat_nil]
    exact ⟨rfl, rfl, rfl, by simp [stS], rfl⟩
  · have h := eat_chunk' t [] { (stS most room fields b) with most := (stS most room fields b).most - n, left := n, mode := 1 } rfl h0 (by show (t.length : Int) ≤ n; omega)
    rw [List.append_nil, eat_nil] at h
    rw [h]
    exact ⟨rfl, rfl, rfl, rfl, rfl⟩
def retAt (k : Nat) : UInt8 := if k = 0 then 13 else 10
theorem stK_nil (most room fields : Int) (b : List UInt8) (k : Nat) : Sees (eat (stK most room fields b k) []) 0 0 false b [] := by
  rw [eat_nil]
  exact ⟨rfl, rfl, rfl, rfl, rfl⟩
theorem stK_bad (most room fields : Int) (b : List UInt8) (k : Nat) (hk : k < 2) (c : UInt8) (hc : c ≠ retAt k) (r : List UInt8) : Sees (eat (stK most room fields b k) (c :: r)) 1 100 false b [] := by
  match k, hk, hc with
  | 0, _, hc =>
    have hb : bstep (stK most room fields b 0) c = fin { (stK most room fields b 0) with mode := 3 } 100 := by
      show behindChunk _ c = _
      unfold behindChunk
      rw [if_neg (show ¬ c = 13 from hc)]
    rw [eat_cons (by simp [stK]), hb, eat_over (by rfl)]
    exact ⟨rfl, rfl, rfl, rfl, rfl⟩
  | 1, _, hc =>
    have hb : bstep (stK most room fields b 1) c = fin { (stK most room fields b 1) with mode := 0 } 100 := by
      show behindReturn _ c = _
      unfold behindReturn
      rw [if_neg (show ¬ c = 10 from hc)]
    rw [eat_cons (by simp [stK]), hb, eat_over (by rfl)]
    exact ⟨rfl, rfl, rfl, rfl, rfl⟩
theorem stK_on (most room fields : Int) (b : List UInt8) (k : Nat) (hk : k < 2) (r : List UInt8) : eat (stK most room fields b k) (retAt k :: r) = (1 + (eat (stK most room fields b (k + 1)) r).1, (eat (stK most room fields b (k + 1)) r).2) := by
  match k, hk with
  | 0, _ =>
    have hb : bstep (stK most room fields b 0) (retAt 0) = stK most room fields b 1 := by
      show behindChunk _ _ = _
      unfold behindChunk
      rw [if_pos (show retAt 0 = 13 from rfl)]
      rfl
    rw [eat_cons (by simp [stK]), hb, Nat.add_comm]
  | 1, _ =>
    have hb : bstep (stK most room fields b 1) (retAt 1) = stK most room fields b 2 := by
      show behindReturn _ _ = _
      unfold behindReturn
      rw [if_pos (show retAt 1 = 10 from rfl)]
      rfl
    rw [eat_cons (by simp [stK]), hb, Nat.add_comm]
theorem open4_long {m rm f : Int} {b M : List UInt8} {t : List Fl} {u k : Nat} (hk : (k : Int) = rm - u) (hn : ∀ i, i < k → i < M.length → M.getD i 0 ≠ 10) (hl : k < M.length) : Sees (eat (stT m rm f b t u) M) (k + 1) 104 false b t := by
  have h := eat_put4 (M.take k) (M.drop k) (stT m rm f b t u) rfl (noLf_of hn) (by rw [List.length_take]; show _ ≤ rm - (u : Int); omega)
  rw [List.take_append_drop] at h
  rw [h, List.drop_eq_getElem_cons hl, eat_full4 _ _ _ (by rfl) (by show rm - (u : Int) - ((M.take k).length : Int) = 0; rw [List.length_take]; omega)]
  refine ⟨?_, rfl, rfl, rfl, rfl⟩
  show (M.take k).length + 1 = k + 1
  rw [List.length_take]
  omega
theorem open4_short {m rm f : Int} {b M : List UInt8} {t : List Fl} {u : Nat} (hn : ∀ i : Nat, (i : Int) < rm - u → i < M.length → M.getD i 0 ≠ 10) (hl : (M.length : Int) ≤ rm - u) : Sees (eat (stT m rm f b t u) M) M.length 0 false b t := by
  have h1 : noLf M := by
    have := noLf_of (M := M) (k := M.length) (fun i h1 h2 => hn i (by omega) h2)
    rwa [List.take_length] at this
  have h := eat_put4 M [] (stT m rm f b t u) rfl h1 hl
  rw [List.append_nil, eat_nil] at h
  rw [h]
  exact ⟨rfl, rfl, rfl, rfl, rfl⟩
theorem line4_bad {m rm f : Int} {b l r : List UInt8} {t : List Fl} {u : Nat} (hn : noLf l) (hl : (l.length : Int) < rm - u) (h : ∀ k, l ≠ k ++ [13]) : Sees (eat (stT m rm f b t u) (l ++ 10 :: r)) (l.length + 1) 101 false b t := by
  rw [eat_line4 l r (stT m rm f b t u) rfl hn hl, endTrailer_bad rfl h, eat_over (by rfl)]
  exact ⟨rfl, rfl, rfl, rfl, rfl⟩
theorem line4_end {m rm f : Int} {b l r : List UInt8} {t : List Fl} {u : Nat} (hn : noLf l) (hl : (l.length : Int) < rm - u) (h : l = [] ++ [13]) : Sees (eat (stT m rm f b t u) (l ++ 10 :: r)) (l.length + 1) 0 true b t := by
  rw [eat_line4 l r (stT m rm f b t u) rfl hn hl, h, endTrailer_yes rfl, if_pos rfl, eat_over (by rfl)]
  exact ⟨rfl, rfl, rfl, rfl, rfl⟩
theorem line4_many {m rm f : Int} {b l k r : List UInt8} {t : List Fl} {u : Nat} (hn : noLf l) (hl : (l.length : Int) < rm - u) (h : l = k ++ [13]) (h0 : k ≠ []) (hf : f - (t.length : Int) = 0) : Sees (eat (stT m rm f b t u) (l ++ 10 :: r)) (l.length + 1) 104 false b t := by
  rw [eat_line4 l r (stT m rm f b t u) rfl hn hl, h, endTrailer_yes rfl, if_neg h0, if_pos (show (stT m rm f b t u).fields = 0 from hf), eat_over (by rfl)]
  exact ⟨rfl, rfl, rfl, rfl, rfl⟩
theorem line4_not {m rm f : Int} {b l k r : List UInt8} {t : List Fl} {u : Nat} (hn : noLf l) (hl : (l.length : Int) < rm - u) (h : l = k ++ [13]) (h0 : k ≠ []) (hf : f - (t.length : Int) ≠ 0) (hp : (parseL k).2.2 ≠ 0 ∨ trails (parseL k).1.1 = false) : Sees (eat (stT m rm f b t u) (l ++ 10 :: r)) (l.length + 1) 101 false b t := by
  rw [eat_line4 l r (stT m rm f b t u) rfl hn hl, h, endTrailer_yes rfl, if_neg h0, if_neg (show ¬ (stT m rm f b t u).fields = 0 from hf)]
  unfold keep
  rw [if_pos hp, eat_over (by rfl)]
  exact ⟨rfl, rfl, rfl, rfl, rfl⟩
theorem line4_on {m rm f : Int} {b l k r : List UInt8} {t : List Fl} {u : Nat} (hn : noLf l) (hl : (l.length : Int) < rm - u) (h : l = k ++ [13]) (h0 : k ≠ []) (hf : f - (t.length : Int) ≠ 0) (hp : ¬ ((parseL k).2.2 ≠ 0 ∨ trails (parseL k).1.1 = false)) :
    eat (stT m rm f b t u) (l ++ 10 :: r) = (l.length + 1 + (eat (stT m rm f b (t ++ [(parseL k).1]) (u + (l.length + 1))) r).1, (eat (stT m rm f b (t ++ [(parseL k).1]) (u + (l.length + 1))) r).2) := by
  rw [eat_line4 l r (stT m rm f b t u) rfl hn hl, h, endTrailer_yes rfl, if_neg h0, if_neg (show ¬ (stT m rm f b t u).fields = 0 from hf)]
  unfold keep
  rw [if_neg hp]
  have e : ({ ({ (stT m rm f b t u) with room := (stT m rm f b t u).room - ((k ++ [13]).length : Int) - 1 } : DS) with fields := (stT m rm f b t u).fields - 1, tr := t ++ [(parseL k).1] } : DS) = stT m rm f b (t ++ [(parseL k).1]) (u + ((k ++ [13]).length + 1)) := by
    unfold stT
    simp only [List.length_append, List.length_cons, List.length_nil]
    congr 1 <;> omega
  have e2 : ({ ({ (stT m rm f b t u) with room := (stT m rm f b t u).room - ((k ++ [13]).length : Int) - 1 } : DS) with fields := ({ (stT m rm f b t u) with room := (stT m rm f b t u).room - ((k ++ [13]).length : Int) - 1 } : DS).fields - 1, tr := ({ (stT m rm f b t u) with room := (stT m rm f b t u).room - ((k ++ [13]).length : Int) - 1 } : DS).tr ++ [(parseL k).1] } : DS) = stT m rm f b (t ++ [(parseL k).1]) (u + ((k ++ [13]).length + 1)) := e
  rw [e2]

end Ck
end Go.Proofs.YtdbnlpnnfnodnaaGreatDoor

/-
  Of the document: ending, failed, open; a block that holds what came of a text.
-/
set_option linter.unusedVariables false
set_option linter.unusedSimpArgs false
set_option maxRecDepth 100000
namespace Go.Proofs.YtdbnlpnnfnodnaaGreatDoor
open Go.RowKit Go.Shelf
namespace Ck
open Oc Tg _root_.Go.Proofs.YtdbnlpnnfnodnaaGreatDoor.Fd

/-- The block holds how far a text was taken, what came of it. -/
def WB (w : World) (g : Nat) (t e : Int) (d : Bool) (b : ByteArray) (v : Value) : Prop := w.heap[g]? = some (.cells #[.int .i64 t, .int .i64 e, .bool d, .string b, v] 74 (0, 0))
theorem WB.c {w : World} {g : Nat} {t e : Int} {d : Bool} {b : ByteArray} {v : Value} (h : WB w g t e d b v) : w.cell? ⟨g, 0, none⟩ = some (.int .i64 t) ∧ w.cell? ⟨g, 1, none⟩ = some (.int .i64 e) ∧ w.cell? ⟨g, 2, none⟩ = some (.bool d) ∧ w.cell? ⟨g, 3, none⟩ = some (.string b) ∧ w.cell? ⟨g, 4, none⟩ = some v := by
  refine ⟨?_, ?_, ?_, ?_, ?_⟩ <;> rw [cell_of_row w g _ _ _ _ h] <;> rfl
theorem WB.f {w : World} {g : Nat} {t e : Int} {d : Bool} {b : ByteArray} {v : Value} (h : WB w g t e d b v) (i : Nat) : w.frozen? ⟨g, i, none⟩ = false := frozen_of_row w g i _ _ h
theorem WB.lt {w : World} {g : Nat} {t e : Int} {d : Bool} {b : ByteArray} {v : Value} (h : WB w g t e d b v) : g < w.heap.size := (Array.getElem?_eq_some_iff.1 h).1
theorem WB.below {w w' : World} {B g : Nat} {t e : Int} {d : Bool} {b : ByteArray} {v : Value} (h : WB w g t e d b v) (hb : Below B w w') (hg : g < B) : WB w' g t e d b v := by
  unfold WB
  rw [hb.block g hg]
  exact h
theorem WB.bel {w w' : World} {g : Nat} {t e : Int} {d : Bool} {b : ByteArray} {v : Value} (h : WB w g t e d b v) (hb : Below w.heap.size w w') : WB w' g t e d b v := h.below hb h.lt
theorem WB.set0 {w : World} {g : Nat} {t e : Int} {d : Bool} {b : ByteArray} {v : Value} (h : WB w g t e d b v) (x : Int) : WB (w.setCell ⟨g, 0, none⟩ (.int .i64 x)) g x e d b v := heap_setCell_same w g 0 _ _ _ h
theorem WB.set2 {w : World} {g : Nat} {t e : Int} {d : Bool} {b : ByteArray} {v : Value} (h : WB w g t e d b v) (x : Bool) : WB (w.setCell ⟨g, 2, none⟩ (.bool x)) g t e x b v := heap_setCell_same w g 2 _ _ _ h
theorem WB.set3 {w : World} {g : Nat} {t e : Int} {d : Bool} {b : ByteArray} {v : Value} (h : WB w g t e d b v) (x : ByteArray) : WB (w.setCell ⟨g, 3, none⟩ (.string x)) g t e d x v := heap_setCell_same w g 3 _ _ _ h
theorem WB.set4 {w : World} {g : Nat} {t e : Int} {d : Bool} {b : ByteArray} {v : Value} (h : WB w g t e d b v) (x : Value) : WB (w.setCell ⟨g, 4, none⟩ x) g t e d b x := heap_setCell_same w g 4 _ _ _ h
theorem WB.other {w : World} {g : Nat} {t e : Int} {d : Bool} {b : ByteArray} {v : Value} (h : WB w g t e d b v) {p : Addr} (hp : g ≠ p.block) (x : Value) : WB (w.setCell p x) g t e d b v := by
  unfold WB
  rw [heap_setCell_other w p g x hp]
  exact h
theorem OwnF.low {w : World} {T B : Nat} {v : Value} {t : List Fl} (h : OwnF T B v t w) {p : Addr} (hp : p.block < B) (x : Value) : OwnF T B v t (w.setCell p x) := by
  refine ⟨h.1, ?_⟩
  rcases h.2 with hn | ⟨g, cap, cur, rfl, hb, hg, rest⟩
  · exact .inl hn
  · refine .inr ⟨g, cap, cur, rfl, hb, ?_, rest⟩
    rw [heap_setCell_other w p g x (by omega)]
    exact hg

structure EndY (s : ByteArray) (a m i : Nat) : Prop where
  lt : i < m
  ins : a + i < s.size
  lf : s.data.toList.getD (a + i) 0 = 10
  no : ∀ j, j < i → s.data.toList.getD (a + j) 0 ≠ 10
structure EndN (s : ByteArray) (a m : Nat) : Prop where
  no : ∀ j, j < m → a + j < s.size → s.data.toList.getD (a + j) 0 ≠ 10
set_option maxHeartbeats 1000000 in
theorem rending_any (s : ByteArray) (hs : s.size ≤ 2000000000) (a : Nat) (ha : a ≤ s.size) (m : Nat) (hm : m ≤ 2000000000) (w : World) :
    Calls Tryz.prog 40 #[.string s, .int .i64 (a : Int), .int .i64 (m : Int)] w fun e w' => ((∃ i : Nat, e = .returned (.int .i64 ((a + i : Nat) : Int)) ∧ EndY s a m i) ∨ (e = .returned (.int .i64 (-1)) ∧ EndN s a m)) ∧ w' = w := by
  go_enter Tryz.func40, Tryz.ntmps40
  go_wp2
  go_loop [7] (fun v => ∃ k : Nat, k ≤ m ∧ a + k ≤ s.size ∧ v = .int .i64 ((a + k : Nat) : Int) ∧ Hid (∀ j, j < k → s.data.toList.getD (a + j) 0 ≠ 10)) (fun v => s.size - (intOf v).toNat)
  case atStart => exact ⟨0, Nat.zero_le _, ha, rfl, (fun j hj => by omega : ∀ j, j < 0 → _)⟩
  case round =>
    obtain ⟨k, hkm, hka, rfl, hno⟩ := hrel
    obtain ⟨P, hP⟩ : ∃ P, P = a + k := ⟨_, rfl⟩
    have HP : Hid (P = a + k) := hP
    rw [← hP] at hka ⊢
    have hPa : (P : Int) - (a : Int) = (k : Int) := by omega
    have hwr : IntKind.i64.wrap ((P : Int) - (a : Int)) = (k : Int) := by rw [hPa, IntKind.wrap_i64]; omega
    clear hP
    by_cases hlt : P < s.size ∧ k < m
    · obtain ⟨h1, h2⟩ := hlt
      have hby : ((s[P].toNat : Nat) : Int) = byt s P := byt_at s P h1
      by_cases h10 : s.data.toList.getD P 0 = 10
      · have q10 : (byt s P == 10) = true := by unfold byt; rw [h10]; rfl
        have H10 : Hid (s.data.toList.getD P 0 = 10) := h10
        clear h10
        go_wp2
        go_ret
        exact ⟨.inl ⟨k, ret_int (by have := HP.out; omega), ⟨h2, (by rw [← HP.out]; exact h1), (by rw [← HP.out]; exact H10.out), hno.out⟩⟩, rfl⟩
      · have q10 : (byt s P == 10) = false := by
          rw [beq_eq_false_iff_ne]
          intro e
          exact h10 (UInt8.toNat_inj.1 (by unfold byt at e; show _ = 10; omega))
        have HN : Hid (∀ j, j < k + 1 → s.data.toList.getD (a + j) 0 ≠ 10) := (fun j hj => by
          by_cases hjk : j = k
          · subst hjk; rw [← HP.out]; exact h10
          · exact hno.out j (by omega) : ∀ j, j < k + 1 → s.data.toList.getD (a + j) 0 ≠ 10)
        clear h10
        go_wp2
        go_round
        case rel => exact ⟨k + 1, by omega, by have := HP.out; omega, by have := HP.out; go_num, HN⟩
        case measure => simp [intOf]; omega
    · have HE : Hid (∀ j, j < m → a + j < s.size → s.data.toList.getD (a + j) 0 ≠ 10) := (fun j h1 h2 => hno.out j (by have := HP.out; omega) : ∀ j, j < m → a + j < s.size → s.data.toList.getD (a + j) 0 ≠ 10)
      by_cases h1 : P < s.size
      · have h2 : ¬ k < m := fun e => hlt ⟨h1, e⟩
        clear hlt
        go_wp2
        go_ret
        exact ⟨.inr ⟨rfl, ⟨HE.out⟩⟩, rfl⟩
      · clear hlt
        go_wp2
        go_ret
        exact ⟨.inr ⟨rfl, ⟨HE.out⟩⟩, rfl⟩

set_option maxHeartbeats 1000000 in
theorem rfailed_any (t e0 : Int) (d : Bool) (b : ByteArray) (va : Option Addr) (vn vc : Nat) (at' e : Int) (h0 : 0 ≤ at') (h1 : at' ≤ 4000000000) (w : World) :
    Calls Tryz.prog 42 #[.agg #[.int .i64 t, .int .i64 e0, .bool d, .string b, .slice va vn vc], .int .i64 at', .int .i64 e] w fun x w' => x = .returned (.agg #[.int .i64 (at' + 1), .int .i64 e, .bool d, .string b, .slice va vn vc]) ∧ Below w.heap.size w w' := by
  go_enter Tryz.func42, Tryz.ntmps42
  go_wp2
  refine bodyPost_ret (v := .agg #[.int .i64 (at' + 1), .int .i64 e, .bool d, .string b, .slice va vn vc]) (by simp [results, Tryz.results42, go_sem]) rfl ?_
  refine ⟨rfl, ?_⟩
  repeat first | exact Below.refl _ _ | refine Below.setCell ?_ (by simp) _ | refine Below.alloc ?_ (by simp) _

end Ck
end Go.Proofs.YtdbnlpnnfnodnaaGreatDoor

/-
  The document's MayTrail; the law ChunkTrails.
-/
set_option linter.unusedVariables false
set_option linter.unusedSimpArgs false
set_option maxRecDepth 100000
namespace Go.Proofs.YtdbnlpnnfnodnaaGreatDoor
open Go.RowKit Go.Shelf
namespace Ck
open Oc Tg _root_.Go.Proofs.YtdbnlpnnfnodnaaGreatDoor.Fd

/-- Is one of them that text? -/
def inL (L : List (List UInt8)) (x : List UInt8) : Bool := L.contains x

set_option maxRecDepth 100000 in
set_option maxHeartbeats 1000000 in
theorem rIn_any (v : Value) (L : List (List UInt8)) (x : List UInt8) (hl : L.length ≤ 1048576) (w : World) (h : RdS v L w) :
    Calls Tryz.prog 82 #[v, .string (str x)] w fun e w' => e = .returned (.bool (inL L x)) ∧ w' = w := by
  have HR : Hid (RdS v L w) := h
  obtain ⟨a, c, rfl, _⟩ := h
  generalize hX : str x = X
  have HX : Hid (X = str x) := hX.symm
  clear hX
  go_enter Tryz.func82, Tryz.ntmps82
  go_wp2
  go_loop [9] (fun i => ∃ k : Nat, k ≤ L.length ∧ i = .int .i64 k ∧ Hid (∀ j, j < k → L.getD j [] ≠ x)) (fun i => L.length - (intOf i).toNat)
  case atStart => exact ⟨0, Nat.zero_le _, rfl, (fun j hj => by omega : ∀ j, j < 0 → _)⟩
  case round =>
    obtain ⟨k, hk, rfl, hall⟩ := hrel
    by_cases hlt : k < L.length
    · obtain ⟨a', c', e', hcs⟩ := HR.out
      injection e' with e1 _ e2
      subst e1 e2
      rcases hcs with h | ⟨g, o, rfl, hlc, hcell⟩
      · rw [h] at hlt; simp at hlt
      have p0 := hcell k hlt
      clear hcell
      by_cases he : L.getD k [] = x
      · have HE : Hid (inL L x = true) := by
          show _ = _
          unfold inL
          rw [List.contains_iff_mem, ← he, List.getD_eq_getElem?_getD, List.getElem?_eq_getElem hlt]
          exact List.getElem_mem hlt
        rw [he, ← HX.out] at p0
        have hq : (X.toList == X.toList) = true := by simp
        go_wp2
        go_ret
        exact ⟨ret_bool HE.out.symm, rfl⟩
      · have HN : Hid (∀ j, j < k + 1 → L.getD j [] ≠ x) := fun j hj => by
          by_cases hjk : j = k
          · subst hjk; exact he
          · exact hall.out j (by omega)
        have hq : ((str (L.getD k [])).toList == X.toList) = false := by
          rw [eq_toList, decide_eq_false_iff_not, HX.out]
          exact fun e => he (str_inj e)
        generalize str (L.getD k []) = Y at *
        go_wp2
        go_round
        case rel => exact ⟨k + 1, by omega, by go_num, HN⟩
        case measure => simp [intOf]; omega
    · have HE : Hid (inL L x = false) := by
        show _ = _
        unfold inL
        cases hc : L.contains x with
        | false => rfl
        | true =>
          rw [List.contains_iff_mem] at hc
          obtain ⟨j, hj, e⟩ := List.mem_iff_getElem.1 hc
          exact absurd (by rw [List.getD_eq_getElem?_getD, List.getElem?_eq_getElem hj, ← e]; rfl) (hall.out j (by omega))
      go_wp2
      go_ret
      exact ⟨ret_bool HE.out.symm, rfl⟩

def never : Array Value := #[.string ⟨#[99, 111, 110, 110, 101, 99, 116, 105, 111, 110]⟩, .string ⟨#[99, 111, 110, 116, 101, 110, 116, 45, 101, 110, 99, 111, 100, 105, 110, 103]⟩, .string ⟨#[99, 111, 110, 116, 101, 110, 116, 45, 108, 101, 110, 103, 116, 104]⟩, .string ⟨#[99, 111, 110, 116, 101, 110, 116, 45, 114, 97, 110, 103, 101]⟩, .string ⟨#[99, 111, 110, 116, 101, 110, 116, 45, 116, 121, 112, 101]⟩, .string ⟨#[101, 120, 112, 101, 99, 116]⟩, .string ⟨#[104, 111, 115, 116]⟩, .string ⟨#[107, 101, 101, 112, 45, 97, 108, 105, 118, 101]⟩, .string ⟨#[116, 101]⟩, .string ⟨#[116, 114, 97, 105, 108, 101, 114]⟩, .string ⟨#[116, 114, 97, 110, 115, 102, 101, 114, 45, 101, 110, 99, 111, 100, 105, 110, 103]⟩, .string ⟨#[117, 112, 103, 114, 97, 100, 101]⟩]
theorem never_at : ∀ j, j < 12 → never[j]? = some (.string (str (heads.getD j []))) := fun j hj => match j, hj with
  | 0, _ => rfl
  | 1, _ => rfl
  | 2, _ => rfl
  | 3, _ => rfl
  | 4, _ => rfl
  | 5, _ => rfl
  | 6, _ => rfl
  | 7, _ => rfl
  | 8, _ => rfl
  | 9, _ => rfl
  | 10, _ => rfl
  | 11, _ => rfl
theorem never_rd (w : World) : RdS (.slice (some ⟨w.heap.size, 0, none⟩) 12 12) heads (w.alloc (.cells never 9)) := by
  refine ⟨_, 12, rfl, .inr ⟨w.heap.size, 0, rfl, by decide, fun j hj => ?_⟩⟩
  rw [cell_of_row _ w.heap.size _ _ _ _ (heap_alloc_new w _), Nat.zero_add]
  exact never_at j hj

set_option maxHeartbeats 1000000 in
theorem rMayTrail_any (l : List UInt8) (hl : l.length ≤ maxLen) (w : World) :
    Calls Tryz.prog 60 #[.string (str l)] w fun e w' => e = .returned (.bool (trails l)) ∧ Below w.heap.size w w' := by
  have HN : Hid (∀ w, Calls Tryz.prog 81 #[.string (str l)] w fun e w' => e = .returned (.bool (isName l)) ∧ w' = w) := fun w => by
    have h := rIsName_any (str l) (by rw [str_size]; exact hl) w
    rw [str_list] at h
    exact h
  have HL : Hid (∀ w, Calls Tryz.prog 74 #[.string (str l)] w fun e w' => e = .returned (.string (str (lower l))) ∧ Below w.heap.size w w') := fun w => by
    have h := Fd.rLower_any (str l) (by rw [str_size]; exact hl) w
    unfold lowS at h
    rw [str_list] at h
    exact h
  have HI : Hid (∀ w1, Below (w.alloc (.cells never 9)).heap.size (w.alloc (.cells never 9)) w1 → Calls Tryz.prog 82 #[.slice (some ⟨w.heap.size, 0, none⟩) 12 12, .string (str (lower l))] w1 fun e w' => e = .returned (.bool (heads.contains (lower l))) ∧ w' = w1) := fun w1 hb => rIn_any _ heads _ (by decide) w1 ((never_rd w).below hb)
  have HBA : Hid (Below w.heap.size w (w.alloc (.cells never 9))) := (Below.refl _ w).alloc (Nat.le_refl _) _
  unfold trails
  generalize isName l = b at *
  generalize heads.contains (lower l) = c at *
  generalize str (lower l) = M at *
  generalize str l = X at *
  clear hl
  unfold never at *
  cases b with
  | false =>
    go_enter Tryz.func60, Tryz.ntmps60
    go_wp2_with fail
    refine (HN.out _).mono ?_
    rintro e w1 ⟨rfl, hw⟩
    rw [hw]
    go_wp2
    go_ret
    exact ⟨ret_bool (by simp), HBA.out⟩
  | true =>
    go_enter Tryz.func60, Tryz.ntmps60
    go_wp2_with fail
    refine (HN.out _).mono ?_
    rintro e w1 ⟨rfl, hw⟩
    rw [hw]
    go_wp2_with fail
    refine (HL.out _).mono ?_
    rintro e w2 ⟨rfl, hb2⟩
    have HB2 : Hid (Below w.heap.size w w2) := bel_trans HBA.out hb2
    have HB2' := HI.out _ hb2
    clear hb2
    have HI2 : Hid (Calls Tryz.prog 82 #[.slice (some ⟨w.heap.size, 0, none⟩) 12 12, .string M] w2 fun e w' => e = .returned (.bool c) ∧ w' = w2) := HB2'
    clear HB2'
    go_wp2_with fail
    refine HI2.out.mono ?_
    rintro e w3 ⟨rfl, hw3⟩
    rw [hw3]
    go_wp2
    go_ret
    exact ⟨ret_bool (by simp), HB2.out⟩

end Ck
end Go.Proofs.YtdbnlpnnfnodnaaGreatDoor

/-
  field: named, IndexFunc, Find; the law's awake.
-/
set_option linter.unusedVariables false
set_option linter.unusedSimpArgs false
namespace Go.Proofs.YtdbnlpnnfnodnaaGreatDoor
open Go.RowKit Go.Shelf
namespace Fd
open Oc Tg

/-- Is the field's name alike to it? -/
def alike (s : List UInt8) (p : Fl) : Bool := decide (lower p.1 = lower s)
def idxZ (s : List UInt8) (fs : List Fl) : Int := match fs.findIdx? (alike s) with | some k => (k : Int) | none => -1
theorem low_alike (n s : List UInt8) : decide (lowS (str n) = lowS (str s)) = decide (lower n = lower s) := by
  unfold lowS
  rw [str_list, str_list, Bool.eq_iff_iff, decide_eq_true_iff, decide_eq_true_iff]
  exact ⟨str_inj, fun h => by rw [h]⟩
theorem idxZ_at {s : List UInt8} {fs : List Fl} {k : Nat} (hk : k < fs.length) (h1 : alike s (nth fs k) = true) (h2 : ∀ j, j < k → alike s (nth fs j) = false) : idxZ s fs = k := by
  unfold idxZ
  have : fs.findIdx? (alike s) = some k := by
    rw [List.findIdx?_eq_some_iff_getElem]
    refine ⟨hk, ?_, fun j hj => ?_⟩
    · have := h1
      unfold nth at this
      rwa [List.getD_eq_getElem?_getD, List.getElem?_eq_getElem hk] at this
    · have := h2 j hj
      unfold nth at this
      rw [List.getD_eq_getElem?_getD, List.getElem?_eq_getElem (by omega)] at this
      simpa using this
  rw [this]
theorem idxZ_none {s : List UInt8} {fs : List Fl} (h2 : ∀ j, j < fs.length → alike s (nth fs j) = false) : idxZ s fs = -1 := by
  unfold idxZ
  have : fs.findIdx? (alike s) = none := by
    rw [List.findIdx?_eq_none_iff]
    intro x hx
    obtain ⟨j, hj, rfl⟩ := List.mem_iff_getElem.1 hx
    have := h2 j hj
    unfold nth at this
    rwa [List.getD_eq_getElem?_getD, List.getElem?_eq_getElem hj] at this
  rw [this]
/-- No text of theirs is longer. -/
def Each (M : Nat) (fs : List Fl) : Prop := ∀ p ∈ fs, p.1.length ≤ M ∧ p.2.length ≤ M
theorem Each.at {M : Nat} {fs : List Fl} (h : Each M fs) (k : Nat) (hk : k < fs.length) : (nth fs k).1.length ≤ M ∧ (nth fs k).2.length ≤ M := by
  refine h _ ?_
  unfold nth
  rw [List.getD_eq_getElem?_getD, List.getElem?_eq_getElem hk]
  exact List.getElem_mem hk

/-- The value of the first field of a name, and whether there is one. -/
def findF (s : List UInt8) (fs : List Fl) : List UInt8 × Bool := match fs.find? (alike s) with | some p => (p.2, true) | none => ([], false)
theorem idx_find (s : List UInt8) (fs : List Fl) : (∃ k : Nat, k < fs.length ∧ idxZ s fs = k ∧ findF s fs = ((nth fs k).2, true)) ∨ (idxZ s fs = -1 ∧ findF s fs = ([], false)) := by
  unfold idxZ findF
  cases h : fs.findIdx? (alike s) with
  | none =>
    right
    rw [List.findIdx?_eq_none_iff] at h
    have : fs.find? (alike s) = none := by rw [List.find?_eq_none]; intro x hx; simpa using h x hx
    rw [this]
    exact ⟨rfl, rfl⟩
  | some k =>
    left
    rw [List.findIdx?_eq_some_iff_getElem] at h
    obtain ⟨hk, h1, h2⟩ := h
    refine ⟨k, hk, rfl, ?_⟩
    have : fs.find? (alike s) = some fs[k] := by
      rw [List.find?_eq_some_iff_getElem]
      exact ⟨h1, k, hk, rfl, fun j hj => by simpa using h2 j hj⟩
    rw [this]
    unfold nth
    rw [List.getD_eq_getElem?_getD, List.getElem?_eq_getElem hk]
    rfl

theorem line_awake : parseL [104, 79, 83, 84, 58, 32, 97, 32] = (([104, 79, 83, 84], [97]), 0, 0) := by decide +kernel
theorem find_awake : findF [72, 111, 115, 116] [([104, 79, 83, 84], [97])] = ([97], true) := by decide +kernel

end Fd
end Go.Proofs.YtdbnlpnnfnodnaaGreatDoor

/-
  The document's ParseLine.
-/
set_option linter.unusedVariables false
set_option linter.unusedSimpArgs false
namespace Go.Proofs.YtdbnlpnnfnodnaaGreatDoor
open Go.RowKit Go.Shelf
namespace Fd
open Oc Tg

theorem fnot_ge (p : UInt8 → Bool) : ∀ (l : List UInt8) (k : Nat), k ≤ l.length → (∀ j, j < k → p (l.getD j 0) = true) → k ≤ fnot p l
  | [], k, h, _ => by simp at h; omega
  | a :: l, 0, _, _ => Nat.zero_le _
  | a :: l, k + 1, h, ha => by
    have h0 := ha 0 (by omega)
    simp at h0
    unfold fnot
    rw [List.takeWhile_cons, h0]
    simp only [if_true, List.length_cons]
    have := fnot_ge p l k (by simpa using h) (fun j hj => by simpa using ha (j + 1) (by omega))
    unfold fnot at this
    omega
theorem pl_no {l : List UInt8} (hb : blank0 l = false) (hh : has 58 l = false) : parseL l = (([], []), l.length, 62) := by
  unfold parseL
  rw [hb, hh]
  rfl
theorem pl_A {l : List UInt8} (hb : blank0 l = true) : parseL l = (([], []), 0, 63) := by unfold parseL; rw [hb]; rfl
theorem pl_D {l : List UInt8} (hb : blank0 l = false) (hh : has 58 l = true) (k : Nat) (hn : isName (cutA 58 l) = false) (hk : min (fnot tokB (cutA 58 l)) 128 = k) : parseL l = (([], []), k, 60) := by
  unfold parseL
  rw [hb, hh, hn, hk]
  rfl
theorem pl_D0 {l : List UInt8} (hb : blank0 l = false) (hh : has 58 l = true) (h0 : (cutA 58 l).length = 0) : parseL l = (([], []), 0, 60) := by
  have e := List.length_eq_zero_iff.1 h0
  exact pl_D hb hh 0 (by rw [e]; rfl) (by rw [e]; rfl)
theorem pl_D1 {l : List UInt8} (hb : blank0 l = false) (hh : has 58 l = true) (k : Nat) (hk : k < (cutA 58 l).length) (hall : ∀ j, j < k → tokB ((cutA 58 l).getD j 0) = true) (hk2 : k ≤ 128) (hst : k = 128 ∨ tokB ((cutA 58 l).getD k 0) = false) : parseL l = (([], []), k, 60) := by
  rcases hst with rfl | hst
  · refine pl_D hb hh 128 ?_ ?_
    · unfold isName
      rw [decide_eq_false (by omega)]
      simp
    · have := fnot_ge tokB (cutA 58 l) 128 (by omega) hall
      omega
  · refine pl_D hb hh k ?_ ?_
    · unfold isName isTok
      rw [all_not tokB 0 _ k hk hst]
      simp
    · have : fnot tokB (cutA 58 l) = k := tw_stop tokB 0 _ k hk hall hst
      omega
theorem name_of {l : List UInt8} (h0 : l.length ≠ 0) (h1 : l.length ≤ 128) (hall : ∀ j, j < l.length → tokB (l.getD j 0) = true) : isName l = true := by
  unfold isName isTok
  rw [all_of tokB 0 _ hall, decide_eq_true h1]
  cases l with
  | nil => exact absurd rfl h0
  | cons _ _ => rfl
theorem pl_E1 {l : List UInt8} (hb : blank0 l = false) (hh : has 58 l = true) (hn : isName (cutA 58 l) = true) (k : Nat) (hk : k < (cutB 58 l).length) (hall : ∀ j, j < k → fieldB ((cutB 58 l).getD j 0) = true) (hst : fieldB ((cutB 58 l).getD k 0) = false) :
    parseL l = (([], []), (cutA 58 l).length + 1 + k, 61) := by
  unfold parseL
  rw [hb, hh, hn, show isFld (cutB 58 l) = false from all_not fieldB 0 _ k hk hst, show fnot fieldB (cutB 58 l) = k from tw_stop fieldB 0 _ k hk hall hst]
  rfl
theorem pl_F {l : List UInt8} (hb : blank0 l = false) (hh : has 58 l = true) (hn : isName (cutA 58 l) = true) (hf : isFld (cutB 58 l) = true) (h8 : (trim (cutB 58 l)).length ≤ 8192) : parseL l = ((cutA 58 l, trim (cutB 58 l)), 0, 0) := by
  unfold parseL
  rw [hb, hh, hn, hf, if_pos h8]
  rfl
theorem pl_E2 {l : List UInt8} (hb : blank0 l = false) (hh : has 58 l = true) (hn : isName (cutA 58 l) = true) (hf : isFld (cutB 58 l) = true) (h8 : ¬ (trim (cutB 58 l)).length ≤ 8192) (k : Nat) (hk : lead (cutB 58 l) = k) :
    parseL l = (([], []), (cutA 58 l).length + 1 + (k + 8192), 61) := by
  unfold parseL
  rw [hb, hh, hn, hf, if_neg h8, hk]
  rfl
theorem at_A {l : List UInt8} (hh : has 58 l = true) (j : Nat) (hj : j < (cutA 58 l).length) : l.getD j 0 = (cutA 58 l).getD j 0 := by
  conv => lhs; rw [← cut_app 58 l hh]
  rw [List.getD_eq_getElem?_getD, List.getD_eq_getElem?_getD, List.getElem?_append_left hj]
theorem at_B {l : List UInt8} (hh : has 58 l = true) (j : Nat) : l.getD ((cutA 58 l).length + 1 + j) 0 = (cutB 58 l).getD j 0 := by
  conv => lhs; arg 1; rw [← cut_app 58 l hh]
  rw [List.getD_eq_getElem?_getD, List.getD_eq_getElem?_getD, List.getElem?_append_right (by omega), show (cutA 58 l).length + 1 + j - (cutA 58 l).length = j + 1 by omega, List.getElem?_cons_succ]
theorem len_AB {l : List UInt8} (hh : has 58 l = true) : l.length = (cutA 58 l).length + 1 + (cutB 58 l).length := by
  have := congrArg List.length (cut_app 58 l hh)
  simp at this
  omega
theorem drop_A {l : List UInt8} (hh : has 58 l = true) : l.drop ((cutA 58 l).length + 1) = cutB 58 l := by
  conv => lhs; arg 2; rw [← cut_app 58 l hh]
  rw [show cutA 58 l ++ 58 :: cutB 58 l = (cutA 58 l ++ [58]) ++ cutB 58 l by simp, show (cutA 58 l).length + 1 = (cutA 58 l ++ [58]).length by simp, List.drop_left]
theorem take_A {l : List UInt8} (hh : has 58 l = true) : l.take (cutA 58 l).length = cutA 58 l := by
  conv => lhs; arg 2; rw [← cut_app 58 l hh]
  rw [List.take_left]

/-- The first place of a byte; -1: none. -/
def findZ (c : UInt8) (l : List UInt8) : Int := if has c l then ((cutA c l).length : Int) else -1
set_option maxRecDepth 100000 in
set_option maxHeartbeats 1000000 in
theorem rfind_any (s : ByteArray) (hs : s.size ≤ maxLen) (c : UInt8) (w : World) :
    Calls Tryz.prog 80 #[.string s, .int .u8 (c.toNat : Int)] w fun e w' => e = .returned (.int .i64 (findZ c s.data.toList)) ∧ w' = w := by
  unfold maxLen at hs
  have hc0 : 0 ≤ (c.toNat : Int) := by omega
  have hc1 : (c.toNat : Int) ≤ 255 := by have := c.toNat_lt; omega
  generalize hg : (c.toNat : Int) = C at *
  have HG : Hid ((c.toNat : Int) = C) := hg
  clear hg
  go_enter Tryz.func80, Tryz.ntmps80
  go_wp2
  go_loop [5] (fun i => ∃ k : Nat, k ≤ s.size ∧ i = .int .i64 k ∧ Hid (∀ j, j < k → (s.data.toList.getD j 0 != c) = true)) (fun i => s.size - (intOf i).toNat)
  case atStart => exact ⟨0, Nat.zero_le _, rfl, (fun j hj => by omega : ∀ j, j < 0 → _)⟩
  case round =>
    obtain ⟨k, hk, rfl, hall⟩ := hrel
    by_cases hlt : k < s.size
    · have hby : ((s[k].toNat : Nat) : Int) = byt s k := byt_at s k hlt
      obtain ⟨b0, b1⟩ := byt_bd s k
      by_cases he : byt s k = C
      · have HE : Hid (findZ c s.data.toList = (k : Int)) := by
          show _ = _
          unfold findZ
          have e0 : s.data.toList.getD k 0 = c := by
            have h := HG.out
            rw [← he] at h
            unfold byt at h
            exact UInt8.toNat_inj.1 (by omega)
          have hl : k < s.data.toList.length := by rw [size_list]; exact hlt
          have hm : has c s.data.toList = true := by
            unfold has
            rw [List.contains_iff_mem, ← e0, List.getD_eq_getElem?_getD, List.getElem?_eq_getElem hl]
            exact List.getElem_mem hl
          rw [if_pos hm]
          have : (cutA c s.data.toList).length = k := tw_stop (fun x => x != c) 0 _ k hl hall.out (by rw [e0]; simp)
          rw [this]
        have hq : ((s[k].toNat : Int) == C) = true := by rw [hby, he]; simp
        go_wp2
        go_ret
        exact ⟨ret_int HE.out.symm, rfl⟩
      · have HN : Hid (∀ j, j < k + 1 → (s.data.toList.getD j 0 != c) = true) := by
          intro j hj
          by_cases hjk : j = k
          · subst hjk
            rw [bne_iff_ne]
            intro e
            apply he
            unfold byt
            rw [e]
            exact HG.out
          · exact hall.out j (by omega)
        have hq : ((s[k].toNat : Int) == C) = false := by rw [hby]; simpa using he
        go_wp2
        go_round
        case rel => exact ⟨k + 1, by omega, by go_num, HN⟩
        case measure => simp [intOf]; omega
    · have HE : Hid (findZ c s.data.toList = -1) := by
        show _ = _
        unfold findZ
        rw [if_neg]
        unfold has
        intro h
        rw [List.contains_iff_mem] at h
        obtain ⟨j, hj, e⟩ := List.mem_iff_getElem.1 h
        have := hall.out j (by rw [size_list] at hj; omega)
        rw [List.getD_eq_getElem?_getD, List.getElem?_eq_getElem hj] at this
        simp [e] at this
      go_wp2
      go_ret
      exact ⟨ret_int HE.out.symm, rfl⟩

/-- The same in two ways: what is answered, as a value. -/
theorem lineV_mk {P : (List UInt8 × List UInt8) × Nat × Int} {a b : List UInt8} {x y : ByteArray} (hx : x = str a) (hy : y = str b) (h : P = ((a, b), 0, 0)) : Ending.returned (.tuple #[.agg #[.string x, .string y], .int .i64 0, .int .i64 0]) = .returned (lineV P) := by rw [h, hx, hy]; rfl
theorem lineV_mk2 {P : (List UInt8 × List UInt8) × Nat × Int} {k : Int} {z : Int} (m : Nat) (hm : k = (m : Int)) (h : P = (([], []), m, z)) : Ending.returned (.tuple #[.agg #[.string ⟨#[]⟩, .string ⟨#[]⟩], .int .i64 k, .int .i64 z]) = .returned (lineV P) := by rw [h, hm]; rfl

set_option maxRecDepth 100000 in
set_option maxHeartbeats 4000000 in
theorem rParseLine_any (s : ByteArray) (hs : s.size ≤ 4000000000) (w : World) :
    Calls Tryz.prog 59 #[.string s] w fun e w' => e = .returned (lineV (parseL s.data.toList)) ∧ Below w.heap.size w w' := by
  have hml : s.size ≤ maxLen := by unfold maxLen; omega
  obtain ⟨w2, hw2⟩ : ∃ w2, w2 = w.alloc (.cells #[.string ⟨#[]⟩, .string ⟨#[]⟩] 78) := ⟨_, rfl⟩
  have R1 : w2.heap[w.heap.size]? = some (.cells #[.string ⟨#[]⟩, .string ⟨#[]⟩] 78 (0, 0)) := by
    rw [hw2]; exact heap_alloc_new w _
  have hb2 : Below w.heap.size w w2 := by rw [hw2]; exact (Below.refl _ w).alloc (Nat.le_refl _) _
  have HB2 : Hid (Below w.heap.size w w2) := hb2
  have c0 := Lib.cell_of_heap R1 0
  have c1 := Lib.cell_of_heap R1 1
  have fc0 := Lib.frozen_of_heap R1 0
  have fc1 := Lib.frozen_of_heap R1 1
  simp at c0 c1
  clear R1 hb2
  have HF : Hid (∀ w, Calls Tryz.prog 80 #[.string s, .int .u8 58] w fun e w' => e = .returned (.int .i64 (findZ 58 s.data.toList)) ∧ w' = w) := fun w => rfind_any s hml 58 w
  have HM : Hid (s.size ≤ maxLen) := hml
  clear hml
  by_cases hz : s.size = 0
  · have hl : s.data.toList = [] := List.length_eq_zero_iff.1 ((size_list s).trans hz)
    have he := empty_of hz
    have HP : Hid (parseL s.data.toList = (([], []), 0, 62)) := by rw [hl]; rfl
    have hf : findZ 58 s.data.toList = -1 := by rw [hl]; rfl
    rw [hf] at HF
    clear hf
    go_enter Tryz.func59, Tryz.ntmps59
    go_wp2_with fail
    rw [← hw2]
    clear hw2
    refine (HF.out _).mono ?_
    rintro e w' ⟨rfl, rfl⟩
    go_wp2
    refine bodyPost_ret (v := .tuple #[.agg #[.string ⟨#[]⟩, .string ⟨#[]⟩], .int .i64 0, .int .i64 62]) (by simp [results, Tryz.results59, go_sem, c0, c1]) rfl ?_
    exact ⟨lineV_mk2 0 rfl HP.out, (Below.setCell (p := ⟨w.heap.size, 1, none⟩) (Below.setCell (p := ⟨w.heap.size, 0, none⟩) HB2.out (by simp) _) (by simp) _)⟩
  · have he := nonempty_of hz
    have hby0 : ((s[0].toNat : Nat) : Int) = byt s 0 := byt_at s 0 (by omega)
    have hpos : 0 < s.size := by omega
    obtain ⟨q0, q1⟩ := byt_bd s 0
    have hb0 : blank0 s.data.toList = blankI (byt s 0) := by
      obtain ⟨c, t, hl⟩ : ∃ c t, s.data.toList = c :: t := by
        cases e : s.data.toList with
        | nil => exact absurd e (list_ne hz)
        | cons c t => exact ⟨c, t, rfl⟩
      unfold byt
      rw [hl]
      rfl
    have HB0 : Hid (blank0 s.data.toList = blankI (byt s 0)) := hb0
    clear hb0
    cases hb : blankI (byt s 0) with
    | true =>
      have HP : Hid (parseL s.data.toList = (([], []), 0, 63)) := pl_A (HB0.out.trans hb)
      go_enter Tryz.func59, Tryz.ntmps59
      go_wp2_with fail
      rw [← hw2]
      clear hw2
      refine (rBlank_any _ (by omega) (by omega) _).mono ?_
      rintro e w' ⟨rfl, rfl⟩
      go_wp2
      refine bodyPost_ret (v := .tuple #[.agg #[.string ⟨#[]⟩, .string ⟨#[]⟩], .int .i64 0, .int .i64 63]) (by simp [results, Tryz.results59, go_sem, c0, c1]) rfl ?_
      exact ⟨lineV_mk2 0 rfl HP.out, (Below.setCell (p := ⟨w.heap.size, 1, none⟩) (Below.setCell (p := ⟨w.heap.size, 0, none⟩) HB2.out (by simp) _) (by simp) _)⟩
    | false =>
      have HB1 : Hid (blank0 s.data.toList = false) := HB0.out.trans hb
      cases hh : has 58 s.data.toList with
      | false =>
        have HP : Hid (parseL s.data.toList = (([], []), s.size, 62)) := by
          have h := pl_no HB1.out hh
          rw [size_list] at h
          exact h
        rw [show findZ 58 s.data.toList = -1 by unfold findZ; rw [hh]; rfl] at HF
        clear hh
        go_enter Tryz.func59, Tryz.ntmps59
        go_wp2_with fail
        rw [← hw2]
        clear hw2
        refine (rBlank_any _ (by omega) (by omega) _).mono ?_
        rintro e w' ⟨rfl, rfl⟩
        go_wp2_with fail
        refine (HF.out _).mono ?_
        rintro e w' ⟨rfl, rfl⟩
        go_wp2
        refine bodyPost_ret (v := .tuple #[.agg #[.string ⟨#[]⟩, .string ⟨#[]⟩], .int .i64 (s.size : Int), .int .i64 62]) (by simp [results, Tryz.results59, go_sem, c0, c1]) rfl ?_
        exact ⟨lineV_mk2 _ rfl HP.out, (Below.setCell (p := ⟨w.heap.size, 1, none⟩) (Below.setCell (p := ⟨w.heap.size, 0, none⟩) HB2.out (by simp) _) (by simp) _)⟩
      | true =>
        have HH : Hid (has 58 s.data.toList = true) := hh
        have hlen := len_AB hh
        rw [size_list] at hlen
        have hlen1 := Nat.le_of_eq hlen
        have hlen2 := Nat.le_of_eq hlen.symm
        clear hlen
        have HA : Hid (∀ j, j < (cutA 58 s.data.toList).length → byt s j = (((cutA 58 s.data.toList).getD j 0).toNat : Int)) := fun j hj => by unfold byt; rw [at_A HH.out j hj]
        have HR : Hid (∀ j, byt s ((cutA 58 s.data.toList).length + 1 + j) = (((cutB 58 s.data.toList).getD j 0).toNat : Int)) := fun j => by unfold byt; rw [at_B HH.out j]
        have HT : Hid (∀ w, Calls Tryz.prog 58 #[.string (s.extract ((cutA 58 s.data.toList).length + 1) s.size)] w fun e w' => e = .returned (.string (str (trim (cutB 58 s.data.toList)))) ∧ w' = w) := fun w => by
          have h := rTrim_any (s.extract ((cutA 58 s.data.toList).length + 1) s.size) (by have := HM.out; simp; omega) w
          rw [Lib.extract_to_end, drop_A HH.out] at h
          exact h
        have HN0 : Hid (s.extract 0 (cutA 58 s.data.toList).length = str (cutA 58 s.data.toList)) := by
          show _ = _
          rw [← str_self (s.extract 0 _), Lib.extract_data]
          simp only [Nat.sub_zero, List.drop_zero]
          rw [take_A HH.out]
        rw [show findZ 58 s.data.toList = ((cutA 58 s.data.toList).length : Int) by unfold findZ; rw [hh]; rfl] at HF
        have D0 : (cutA 58 s.data.toList).length = 0 → Hid (parseL s.data.toList = (([], []), 0, 60)) := fun h => pl_D0 HB1.out HH.out h
        have D1 : Hid (∀ k, k < (cutA 58 s.data.toList).length → (∀ j, j < k → tokI (byt s j) = true) → k ≤ 128 → (k = 128 ∨ tokI (byt s k) = false) → parseL s.data.toList = (([], []), k, 60)) := fun k hk ha hk2 hst =>
          pl_D1 HB1.out HH.out k hk (fun j hj => by have := ha j hj; rw [HA.out j (by omega)] at this; exact this) hk2 (hst.imp id (fun h => by rw [HA.out k hk] at h; exact h))
        have N1 : Hid ((cutA 58 s.data.toList).length ≠ 0 → (cutA 58 s.data.toList).length ≤ 128 → (∀ j, j < (cutA 58 s.data.toList).length → tokI (byt s j) = true) → isName (cutA 58 s.data.toList) = true) := fun h0 h1 ha =>
          name_of h0 h1 (fun j hj => by have := ha j hj; rw [HA.out j hj] at this; exact this)
        have E1 : Hid (isName (cutA 58 s.data.toList) = true → ∀ k, k < (cutB 58 s.data.toList).length → (∀ j, j < k → fieldI (byt s ((cutA 58 s.data.toList).length + 1 + j)) = true) → fieldI (byt s ((cutA 58 s.data.toList).length + 1 + k)) = false → parseL s.data.toList = (([], []), (cutA 58 s.data.toList).length + 1 + k, 61)) := fun hn k hk ha hst =>
          pl_E1 HB1.out HH.out hn k hk (fun j hj => by have := ha j hj; rw [HR.out j] at this; exact this) (by rw [HR.out k] at hst; exact hst)
        have N2 : Hid ((∀ j, j < (cutB 58 s.data.toList).length → fieldI (byt s ((cutA 58 s.data.toList).length + 1 + j)) = true) → isFld (cutB 58 s.data.toList) = true) := fun ha =>
          all_of fieldB 0 _ (fun j hj => by have := ha j hj; rw [HR.out j] at this; exact this)
        have E2 : Hid (isName (cutA 58 s.data.toList) = true → isFld (cutB 58 s.data.toList) = true → ¬ (trim (cutB 58 s.data.toList)).length ≤ 8192 → ∀ k, lead (cutB 58 s.data.toList) = k → parseL s.data.toList = (([], []), (cutA 58 s.data.toList).length + 1 + (k + 8192), 61)) := fun hn hf h8 k hk =>
          pl_E2 HB1.out HH.out hn hf h8 k hk
        have F1 : Hid (isName (cutA 58 s.data.toList) = true → isFld (cutB 58 s.data.toList) = true → (trim (cutB 58 s.data.toList)).length ≤ 8192 → parseL s.data.toList = ((cutA 58 s.data.toList, trim (cutB 58 s.data.toList)), 0, 0)) := fun hn hf h8 =>
          pl_F HB1.out HH.out hn hf h8
        have LD : Hid (∀ k, k < (cutB 58 s.data.toList).length → (∀ j, j < k → blankI (byt s ((cutA 58 s.data.toList).length + 1 + j)) = true) → blankI (byt s ((cutA 58 s.data.toList).length + 1 + k)) = false → lead (cutB 58 s.data.toList) = k) := fun k hk ha hst =>
          tw_stop blankB 0 _ k hk (fun j hj => by have := ha j hj; rw [HR.out j] at this; exact this) (by rw [HR.out k] at hst; exact hst)
        have LG : Hid (∀ k, k ≤ (cutB 58 s.data.toList).length → (∀ j, j < k → blankI (byt s ((cutA 58 s.data.toList).length + 1 + j)) = true) → k ≤ lead (cutB 58 s.data.toList)) := fun k hk ha =>
          fnot_ge blankB _ k hk (fun j hj => by have := ha j hj; rw [HR.out j] at this; exact this)
        have LL := lead_le (cutB 58 s.data.toList)
        have TS : Hid ((str (trim (cutB 58 s.data.toList))).size = (trim (cutB 58 s.data.toList)).length) := str_size _
        clear hh HA HR
        generalize hP : parseL s.data.toList = P at *
        generalize hNm : cutA 58 s.data.toList = A at *
        generalize cutB 58 s.data.toList = R at *
        generalize A.length = N at *
        generalize trim R = TR at *
        generalize lead R = LR at *
        generalize hv : str TR = v at *
        have HV : Hid (v = str TR) := hv.symm
        have HPP : Hid (parseL s.data.toList = P) := hP
        generalize R.length = RL at *
        clear hv hP hNm
        by_cases hN : N = 0
        · have HP := D0 hN
          have hq : ((N : Int) == 0) = true := by simp [hN]
          clear D0 D1 E1 E2 N1 N2 F1 LD LG HT
          go_enter Tryz.func59, Tryz.ntmps59
          go_wp2_with fail
          rw [← hw2]
          clear hw2
          refine (rBlank_any _ (by omega) (by omega) _).mono ?_
          rintro e w' ⟨rfl, rfl⟩
          go_wp2_with fail
          refine (HF.out _).mono ?_
          rintro e w' ⟨rfl, rfl⟩
          go_wp2
          refine bodyPost_ret (v := .tuple #[.agg #[.string ⟨#[]⟩, .string ⟨#[]⟩], .int .i64 0, .int .i64 60]) (by simp [results, Tryz.results59, go_sem, c0, c1]) rfl ?_
          exact ⟨lineV_mk2 0 rfl HP.out, (Below.setCell (p := ⟨w.heap.size, 1, none⟩) (Below.setCell (p := ⟨w.heap.size, 0, none⟩) HB2.out (by simp) _) (by simp) _)⟩
        · have hq : ((N : Int) == 0) = false := by simp; omega
          clear D0
          go_enter Tryz.func59, Tryz.ntmps59
          go_wp2_with fail
          rw [← hw2]
          clear hw2
          refine (rBlank_any _ (by omega) (by omega) _).mono ?_
          rintro e w' ⟨rfl, rfl⟩
          go_wp2_with fail
          refine (HF.out _).mono ?_
          rintro e w' ⟨rfl, rfl⟩
          go_wp2
          go_loop [6] (fun i => ∃ k : Nat, k ≤ N ∧ k ≤ 128 ∧ i = .int .i64 k ∧ Hid (∀ j, j < k → tokI (byt s j) = true)) (fun i => N - (intOf i).toNat)
          case atStart => exact ⟨0, Nat.zero_le _, by omega, rfl, (fun j hj => by omega : ∀ j, j < 0 → _)⟩
          case round =>
            obtain ⟨k, hk, hk2, rfl, hall⟩ := hrel
            by_cases hlt : k < N
            · by_cases h128 : k = 128
              · have HP : Hid (P = (([], []), k, 60)) := D1.out k hlt hall.out hk2 (.inl h128)
                have hq8 : ((k : Int) == 128) = true := by simp; omega
                clear D1 E1 E2 N1 N2 F1 LD LG HT h128
                go_wp2
                refine bodyPost_ret (v := .tuple #[.agg #[.string ⟨#[]⟩, .string ⟨#[]⟩], .int .i64 (k : Int), .int .i64 60]) (by simp [results, Tryz.results59, go_sem, c0, c1]) rfl ?_
                exact ⟨lineV_mk2 _ rfl HP.out, (Below.setCell (p := ⟨w.heap.size, 1, none⟩) (Below.setCell (p := ⟨w.heap.size, 0, none⟩) HB2.out (by simp) _) (by simp) _)⟩
              · have hq8 : ((k : Int) == 128) = false := by simp; omega
                have hks : k < s.size := by omega
                have hby : ((s[k].toNat : Nat) : Int) = byt s k := byt_at s k hks
                obtain ⟨b0, b1⟩ := byt_bd s k
                cases ht : tokI (byt s k) with
                | true =>
                  have HN : Hid (∀ j, j < k + 1 → tokI (byt s j) = true) := by
                    intro j hj
                    by_cases hjk : j = k
                    · subst hjk; exact ht
                    · exact hall.out j (by omega)
                  go_wp2_with (go_at_call 52; refine (rSign_any _ (by omega) (by omega) _).mono ?_; rintro e w' ⟨rfl, rfl⟩)
                  go_round
                  case rel => exact ⟨k + 1, by omega, by omega, by go_num, HN⟩
                  case measure => simp [intOf]; omega
                | false =>
                  have HP : Hid (P = (([], []), k, 60)) := D1.out k hlt hall.out hk2 (.inr ht)
                  go_wp2_with (go_at_call 52; refine (rSign_any _ (by omega) (by omega) _).mono ?_; rintro e w' ⟨rfl, rfl⟩)
                  refine bodyPost_ret (v := .tuple #[.agg #[.string ⟨#[]⟩, .string ⟨#[]⟩], .int .i64 (k : Int), .int .i64 60]) (by simp [results, Tryz.results59, go_sem, c0, c1]) rfl ?_
                  exact ⟨lineV_mk2 _ rfl HP.out, (Below.setCell (p := ⟨w.heap.size, 1, none⟩) (Below.setCell (p := ⟨w.heap.size, 0, none⟩) HB2.out (by simp) _) (by simp) _)⟩
            · obtain rfl : k = N := by omega
              have HNm : Hid (isName A = true) := N1.out hN hk2 hall.out
              clear N1 D1 hall hq
              go_wp2
              go_loop [7] (fun i => ∃ m : Nat, k + 1 ≤ m ∧ m ≤ s.size ∧ i = .int .i64 m ∧ Hid (∀ j, j < m - (k + 1) → fieldI (byt s (k + 1 + j)) = true)) (fun i => s.size - (intOf i).toNat)
              case atStart => exact ⟨k + 1, Nat.le_refl _, by omega, by go_num, (fun j hj => by omega : ∀ j, j < k + 1 - (k + 1) → _)⟩
              case round =>
                obtain ⟨m, hm0, hm, rfl, hall⟩ := hrel
                by_cases hlt2 : m < s.size
                · have hby : ((s[m].toNat : Nat) : Int) = byt s m := byt_at s m hlt2
                  obtain ⟨b0, b1⟩ := byt_bd s m
                  have hmm : k + 1 + (m - (k + 1)) = m := by omega
                  cases ht : fieldI (byt s m) with
                  | true =>
                    have HN : Hid (∀ j, j < m + 1 - (k + 1) → fieldI (byt s (k + 1 + j)) = true) := by
                      intro j hj
                      by_cases hjk : j = m - (k + 1)
                      · subst hjk; rw [hmm]; exact ht
                      · exact hall.out j (by omega)
                    clear hmm
                    go_wp2_with (go_at_call 53; refine (rInside_any _ (by omega) (by omega) _).mono ?_; rintro e w' ⟨rfl, rfl⟩)
                    go_round
                    case rel => exact ⟨m + 1, by omega, by omega, by go_num, HN⟩
                    case measure => simp [intOf]; omega
                  | false =>
                    have HP : Hid (P = (([], []), m, 61)) := by
                      have h := E1.out HNm.out (m - (k + 1)) (by omega) hall.out (by rw [hmm]; exact ht)
                      rw [hmm] at h
                      exact h
                    clear hmm
                    go_wp2_with (go_at_call 53; refine (rInside_any _ (by omega) (by omega) _).mono ?_; rintro e w' ⟨rfl, rfl⟩)
                    refine bodyPost_ret (v := .tuple #[.agg #[.string ⟨#[]⟩, .string ⟨#[]⟩], .int .i64 (m : Int), .int .i64 61]) (by simp [results, Tryz.results59, go_sem, c0, c1]) rfl ?_
                    exact ⟨lineV_mk2 _ rfl HP.out, (Below.setCell (p := ⟨w.heap.size, 1, none⟩) (Below.setCell (p := ⟨w.heap.size, 0, none⟩) HB2.out (by simp) _) (by simp) _)⟩
                · have HFl : Hid (isFld R = true) := N2.out (fun j hj => hall.out j (by omega))
                  clear N2 E1 hall
                  by_cases h8 : TR.length ≤ 8192
                  · have HP : Hid (P = ((A, TR), 0, 0)) := F1.out HNm.out HFl.out h8
                    have hv8 : v.size ≤ 8192 := by have := TS.out; omega
                    go_wp2_with fail
                    refine (HT.out _).mono ?_
                    rintro e w' ⟨rfl, rfl⟩
                    go_wp2
                    refine bodyPost_ret (v := .tuple #[.agg #[.string (s.extract 0 k), .string v], .int .i64 0, .int .i64 0]) (by simp [results, Tryz.results59, go_sem, c0, c1]) rfl ?_
                    exact ⟨lineV_mk HN0.out HV.out HP.out, (Below.setCell (p := ⟨w.heap.size, 1, none⟩) (Below.setCell (p := ⟨w.heap.size, 0, none⟩) HB2.out (by simp) _) (by simp) _)⟩
                  · have hv8 : 8192 < v.size := by have := TS.out; omega
                    have hd8 : decide ((8192 : Int) < (v.size : Int)) = true := decide_eq_true (by omega)
                    have hd0 : decide ((k : Int) < 0) = false := decide_eq_false (by omega)
                    have hdm : decide ((m : Int) < (s.size : Int)) = false := decide_eq_false (by omega)
                    go_wp2_with fail
                    refine (HT.out _).mono ?_
                    rintro e w' ⟨rfl, rfl⟩
                    go_wp2
                    go_loop [9] (fun i => ∃ q : Nat, k + 1 ≤ q ∧ q ≤ k + 1 + LR ∧ i = .int .i64 q ∧ Hid (∀ j, j < q - (k + 1) → blankI (byt s (k + 1 + j)) = true)) (fun i => s.size - (intOf i).toNat)
                    case atStart => exact ⟨k + 1, Nat.le_refl _, by omega, by go_num, (fun j hj => by omega : ∀ j, j < k + 1 - (k + 1) → _)⟩
                    case round =>
                      obtain ⟨q, hq0, hq1, rfl, hall⟩ := hrel
                      have hqs : q < s.size := by omega
                      have hby : ((s[q].toNat : Nat) : Int) = byt s q := byt_at s q hqs
                      obtain ⟨b0, b1⟩ := byt_bd s q
                      have hmm : k + 1 + (q - (k + 1)) = q := by omega
                      cases ht : blankI (byt s q) with
                      | true =>
                        have HN : Hid (∀ j, j < q + 1 - (k + 1) → blankI (byt s (k + 1 + j)) = true) := by
                          intro j hj
                          by_cases hjk : j = q - (k + 1)
                          · subst hjk; rw [hmm]; exact ht
                          · exact hall.out j (by omega)
                        have hq2 := LG.out (q + 1 - (k + 1)) (by omega) HN.out
                        clear hmm
                        go_wp2_with (go_at_call 79; refine (rBlank_any _ (by omega) (by omega) _).mono ?_; rintro e w' ⟨rfl, rfl⟩)
                        go_round
                        case rel => exact ⟨q + 1, by omega, by omega, by go_num, HN⟩
                        case measure => simp [intOf]; omega
                      | false =>
                        have HP : Hid (P = (([], []), q + 8192, 61)) := by
                          have h := E2.out HNm.out HFl.out h8 (q - (k + 1)) (LD.out (q - (k + 1)) (by omega) hall.out (by rw [hmm]; exact ht))
                          rw [show k + 1 + (q - (k + 1) + 8192) = q + 8192 by omega] at h
                          exact h
                        clear hmm
                        go_wp2_with (go_at_call 79; refine (rBlank_any _ (by omega) (by omega) _).mono ?_; rintro e w' ⟨rfl, rfl⟩)
                        refine bodyPost_ret (v := .tuple #[.agg #[.string ⟨#[]⟩, .string ⟨#[]⟩], .int .i64 ((q : Int) + 8192), .int .i64 61]) (by simp [results, Tryz.results59, go_sem, c0, c1]) rfl ?_
                        exact ⟨lineV_mk2 _ (by omega) HP.out, (Below.setCell (p := ⟨w.heap.size, 1, none⟩) (Below.setCell (p := ⟨w.heap.size, 0, none⟩) HB2.out (by simp) _) (by simp) _)⟩

end Fd
end Go.Proofs.YtdbnlpnnfnodnaaGreatDoor

/-
  Of the document: open, trail.
-/
set_option linter.unusedVariables false
set_option linter.unusedSimpArgs false
set_option maxRecDepth 100000
namespace Go.Proofs.YtdbnlpnnfnodnaaGreatDoor
open Go.RowKit Go.Shelf
namespace Ck
open Oc Tg _root_.Go.Proofs.YtdbnlpnnfnodnaaGreatDoor.Fd

/-- What came of a text, as a value. -/
def wkV (n e : Int) (d : Bool) (b : ByteArray) (v : Value) : Value := .agg #[.int .i64 n, .int .i64 e, .bool d, .string b, v]
theorem wkV_mk {n n' e : Int} {d : Bool} {b : ByteArray} {v : Value} (h : n = n') : Ending.returned (.agg #[.int .i64 n, .int .i64 e, .bool d, .string b, v]) = .returned (wkV n' e d b v) := by rw [h]; rfl
theorem OwnF.base {T B B' : Nat} {v : Value} {t : List Fl} {w : World} (h : OwnF T B v t w) (hB : B' ≤ B) : OwnF T B' v t w := by
  refine ⟨h.1, ?_⟩
  rcases h.2 with hn | ⟨g, cap, cur, e, hb, rest⟩
  · exact .inl hn
  · exact .inr ⟨g, cap, cur, e, Nat.le_trans hB hb, rest⟩
theorem OwnF.form {T B : Nat} {v : Value} {t : List Fl} {w : World} (h : OwnF T B v t w) : ∃ a c, v = .slice a t.length c := by
  obtain ⟨a, c, e, _⟩ := h.rd
  exact ⟨a, c, e⟩

/-- The two blocks of a walk: the one that is told, and the result's. -/
theorem two_blocks (w : World) (t e : Int) (d : Bool) (b : ByteArray) (v : Value) :
    WB ((w.alloc (.cells #[.int .i64 t, .int .i64 e, .bool d, .string b, v] 74)).alloc (.cells #[.int .i64 0, .int .i64 0, .bool false, .string ⟨#[]⟩, .slice none 0 0] 74)) w.heap.size t e d b v ∧
    WB ((w.alloc (.cells #[.int .i64 t, .int .i64 e, .bool d, .string b, v] 74)).alloc (.cells #[.int .i64 0, .int .i64 0, .bool false, .string ⟨#[]⟩, .slice none 0 0] 74)) (w.heap.size + 1) 0 0 false ⟨#[]⟩ (.slice none 0 0) ∧
    Below w.heap.size w ((w.alloc (.cells #[.int .i64 t, .int .i64 e, .bool d, .string b, v] 74)).alloc (.cells #[.int .i64 0, .int .i64 0, .bool false, .string ⟨#[]⟩, .slice none 0 0] 74)) ∧
    ((w.alloc (.cells #[.int .i64 t, .int .i64 e, .bool d, .string b, v] 74)).alloc (.cells #[.int .i64 0, .int .i64 0, .bool false, .string ⟨#[]⟩, .slice none 0 0] 74)).heap.size = w.heap.size + 2 := by
  have h1 : WB (w.alloc (.cells #[.int .i64 t, .int .i64 e, .bool d, .string b, v] 74)) w.heap.size t e d b v := heap_alloc_new w _
  have hs : (w.alloc (.cells #[.int .i64 t, .int .i64 e, .bool d, .string b, v] 74)).heap.size = w.heap.size + 1 := by simp
  refine ⟨h1.bel ((Below.refl _ _).alloc (Nat.le_refl _) _), ?_, ((Below.refl _ w).alloc (Nat.le_refl _) _).alloc (by simp) _, by simp⟩
  rw [← hs]
  exact heap_alloc_new _ _

set_option maxHeartbeats 1000000 in
theorem ropen_far (t e0 : Int) (d : Bool) (b : ByteArray) (va : Option Addr) (vn vc : Nat) (s : ByteArray) (hs : s.size ≤ 2000000000) (a : Nat) (ha : a ≤ s.size) (n e : Int) (h0 : 0 ≤ n) (h1 : n < (s.size : Int) - (a : Int)) (w : World) :
    Calls Tryz.prog 41 #[.agg #[.int .i64 t, .int .i64 e0, .bool d, .string b, .slice va vn vc], .string s, .int .i64 (a : Int), .int .i64 n, .int .i64 e] w fun x w' => x = .returned (.agg #[.int .i64 ((a : Int) + n + 1), .int .i64 e, .bool d, .string b, .slice va vn vc]) ∧ Below w.heap.size w w' := by
  obtain ⟨W1, W2, hB, hsz⟩ := two_blocks w t e0 d b (.slice va vn vc)
  obtain ⟨w2, hw2⟩ : ∃ w2, w2 = (w.alloc (.cells #[.int .i64 t, .int .i64 e0, .bool d, .string b, .slice va vn vc] 74)).alloc (.cells #[.int .i64 0, .int .i64 0, .bool false, .string ⟨#[]⟩, .slice none 0 0] 74) := ⟨_, rfl⟩
  rw [← hw2] at W1 W2 hB hsz
  have HW2 : Hid (w2 = (w.alloc (.cells #[.int .i64 t, .int .i64 e0, .bool d, .string b, .slice va vn vc] 74)).alloc (.cells #[.int .i64 0, .int .i64 0, .bool false, .string ⟨#[]⟩, .slice none 0 0] 74)) := hw2
  have HB : Hid (Below w.heap.size w w2) := hB
  have HWR : Hid (WB w2 (w.heap.size + 1) 0 0 false ⟨#[]⟩ (.slice none 0 0)) := W2
  obtain ⟨c0, c1, c2, c3, c4⟩ := W1.c
  clear hw2 hB W2 W1 hsz
  go_enter Tryz.func41, Tryz.ntmps41
  go_wp2_with fail
  rw [← HW2.out]
  go_wp2_with fail
  refine (rfailed_any t e0 d b va vn vc _ e (by omega) (by omega) _).mono ?_
  rintro x w3 ⟨rfl, hb3⟩
  have HB3 : Hid (Below w.heap.size w w3) := bel_trans HB.out hb3
  obtain ⟨r0, r1, r2, r3, r4⟩ := (HWR.out.bel hb3).c
  have rf := (HWR.out.bel hb3).f
  have f0 := rf 0
  have f1 := rf 1
  have f2 := rf 2
  have f3 := rf 3
  have f4 := rf 4
  clear hb3 rf
  go_wp2
  refine bodyPost_ret (v := .agg #[.int .i64 ((a : Int) + n + 1), .int .i64 e, .bool d, .string b, .slice va vn vc]) (by simp [results, Tryz.results41, go_sem, r0, r1, r2, r3, r4]) rfl ?_
  refine ⟨rfl, ?_⟩
  have h := HB3.out
  repeat first | exact h | refine Below.setCell ?_ (by simp) _

set_option maxHeartbeats 1000000 in
theorem ropen_near (t e0 : Int) (d : Bool) (b : ByteArray) (va : Option Addr) (vn vc : Nat) (s : ByteArray) (hs : s.size ≤ 2000000000) (a : Nat) (ha : a ≤ s.size) (n e : Int) (h1 : ¬ (n < (s.size : Int) - (a : Int))) (w : World) :
    Calls Tryz.prog 41 #[.agg #[.int .i64 t, .int .i64 e0, .bool d, .string b, .slice va vn vc], .string s, .int .i64 (a : Int), .int .i64 n, .int .i64 e] w fun x w' => x = .returned (.agg #[.int .i64 (s.size : Int), .int .i64 e0, .bool d, .string b, .slice va vn vc]) ∧ Below w.heap.size w w' := by
  go_enter Tryz.func41, Tryz.ntmps41
  go_wp2
  refine bodyPost_ret (v := .agg #[.int .i64 (s.size : Int), .int .i64 e0, .bool d, .string b, .slice va vn vc]) (by simp [results, Tryz.results41, go_sem]) rfl ?_
  refine ⟨rfl, ?_⟩
  repeat first | exact Below.refl _ _ | refine Below.setCell ?_ (by simp) _ | refine Below.alloc ?_ (by simp) _

end Ck
end Go.Proofs.YtdbnlpnnfnodnaaGreatDoor

/-
  Of the document: trail.
-/
set_option linter.unusedVariables false
set_option linter.unusedSimpArgs false
set_option maxRecDepth 100000
namespace Go.Proofs.YtdbnlpnnfnodnaaGreatDoor
open Go.RowKit Go.Shelf
namespace Ck
open Oc Tg _root_.Go.Proofs.YtdbnlpnnfnodnaaGreatDoor.Fd

theorem bel_up {G : Nat} {w w1 w2 : World} (h : Below G w w1) (h2 : Below w1.heap.size w1 w2) (hG : G ≤ w1.heap.size) : Below G w w2 := h.trans (h2.mono hG)
theorem parseL_name (l : List UInt8) (hl : l.length ≤ maxLen) : (parseL l).1.1.length ≤ maxLen := by
  have := cutA_len 58 l
  unfold parseL
  repeat' split
  all_goals (simp only [List.length_nil]; try omega)
theorem infoFr : (Tryz.prog.info? 78).map (fun i => (i.zero, i.size, i.bytes)) = some (some (.agg #[.string ⟨#[]⟩, .string ⟨#[]⟩]), 2, 32) := by kernel_rfl

set_option maxHeartbeats 1000000 in
theorem rtrail_any (m rm f : Int) (hr0 : 0 ≤ rm) (hr1 : rm ≤ 9223372036854775807) (hf0 : 0 ≤ f) (hf1 : f ≤ 9223372036854775807) (b s : ByteArray) (hs : s.size ≤ 2000000) (fr : Nat) (hfr : fr ≤ s.size) (w : World) :
    Calls Tryz.prog 44 #[.agg #[.int .i64 0, .int .i64 0, .bool false, .string b, .slice none 0 0], .string s, .int .i64 (fr : Int), .int .i64 rm, .int .i64 f] w fun x w' => ∃ (n : Nat) (e : Int) (d : Bool) (t : List Fl) (v : Value), x = .returned (wkV ((fr : Int) + (n : Int)) e d b v) ∧ Sees (eat (stT m rm f b.data.toList [] 0) (s.data.toList.drop fr)) n e d b.data.toList t ∧ OwnF 78 w.heap.size v t w' ∧ Below w.heap.size w w' := by
  obtain ⟨W1, W2, hB, hsz⟩ := two_blocks w 0 0 false b (.slice none 0 0)
  obtain ⟨w2, hw2⟩ : ∃ w2, w2 = (w.alloc (.cells #[.int .i64 0, .int .i64 0, .bool false, .string b, .slice none 0 0] 74)).alloc (.cells #[.int .i64 0, .int .i64 0, .bool false, .string ⟨#[]⟩, .slice none 0 0] 74) := ⟨_, rfl⟩
  rw [← hw2] at W1 W2 hB hsz
  have HW2 : Hid (w2 = (w.alloc (.cells #[.int .i64 0, .int .i64 0, .bool false, .string b, .slice none 0 0] 74)).alloc (.cells #[.int .i64 0, .int .i64 0, .bool false, .string ⟨#[]⟩, .slice none 0 0] 74)) := hw2
  have HB : Hid (Below w.heap.size w w2) := hB
  have HWA : Hid (WB w2 w.heap.size 0 0 false b (.slice none 0 0)) := W1
  have HWR : Hid (WB w2 (w.heap.size + 1) 0 0 false ⟨#[]⟩ (.slice none 0 0)) := W2
  clear hw2 hB W2 W1 hsz
  go_enter Tryz.func44, Tryz.ntmps44
  go_wp2
  rw [← HW2.out]
  go_loopw [11] (fun av wr => ∃ (a u : Nat) (t : List Fl) (vt : Value), a ≤ s.size ∧ av = .int .i64 a ∧ (u : Int) ≤ rm ∧ (t.length : Int) ≤ f ∧ t.length ≤ u ∧ Hid (a = fr + u) ∧ Hid (eat (stT m rm f b.data.toList [] 0) (s.data.toList.drop fr) = (u + (eat (stT m rm f b.data.toList t u) (s.data.toList.drop a)).1, (eat (stT m rm f b.data.toList t u) (s.data.toList.drop a)).2)) ∧ Hid (WB wr w.heap.size 0 0 false b vt) ∧ Hid (WB wr (w.heap.size + 1) 0 0 false ⟨#[]⟩ (.slice none 0 0)) ∧ Hid (OwnF 78 (w.heap.size + 2) vt t wr) ∧ Hid (Below w.heap.size w wr)) (fun av _ => s.size - (intOf av).toNat)
  case atStart => exact ⟨fr, 0, [], .slice none 0 0, hfr, rfl, hr0, hf0, Nat.le_refl _, (rfl : fr = fr + 0), (by rw [Nat.zero_add] : eat (stT m rm f b.data.toList [] 0) (s.data.toList.drop fr) = (0 + (eat (stT m rm f b.data.toList [] 0) (s.data.toList.drop fr)).1, (eat (stT m rm f b.data.toList [] 0) (s.data.toList.drop fr)).2)), HWA, HWR, ownF_nil _ _ _, HB⟩
  case round =>
    obtain ⟨a, u, t, vt, ha, rfl, hu, htf, htu, hau, hst, hwa, hwr, hown, hbl⟩ := hrel
    obtain ⟨va, vc, rfl⟩ := OwnF.form hown.out
    obtain ⟨c0, c1, c2, c3, c4⟩ := hwa.out.c
    have hML : (s.data.toList.drop a).length = s.size - a := by rw [List.length_drop, size_list]
    have HML : Hid ((s.data.toList.drop a).length = s.size - a) := hML
    clear hML
    have hsza := hwa.out.lt
    have hszr := hwr.out.lt
    have hau2 := hau.out
    have HFar : Hid (∀ k : Nat, (k : Int) = rm - u → (∀ i, i < k → a + i < s.size → s.data.toList.getD (a + i) 0 ≠ 10) → rm < (s.size : Int) - (fr : Int) → Sees (eat (stT m rm f b.data.toList t u) (s.data.toList.drop a)) (k + 1) 104 false b.data.toList t) := fun k hk hn hl => open4_long hk (fun i h1 h2 => by rw [dropG]; exact hn i h1 (by rw [HML.out] at h2; omega)) (by rw [HML.out]; omega)
    have HNear : Hid ((∀ i : Nat, (i : Int) < rm - u → a + i < s.size → s.data.toList.getD (a + i) 0 ≠ 10) → ¬ (rm < (s.size : Int) - (fr : Int)) → Sees (eat (stT m rm f b.data.toList t u) (s.data.toList.drop a)) (s.size - a) 0 false b.data.toList t) := fun hn hl => by
      have h := open4_short (m := m) (rm := rm) (f := f) (b := b.data.toList) (t := t) (u := u) (M := s.data.toList.drop a) (fun i h1 h2 => by rw [dropG]; exact hn i h1 (by rw [HML.out] at h2; omega)) (by rw [HML.out]; omega)
      rw [HML.out] at h
      exact h
    clear hau2
    go_wp2_with fail
    refine (rending_any s (by omega) a ha s.size (by omega) _).mono ?_
    rintro e w3 ⟨hd, hw⟩
    rw [hw]
    clear hw
    rcases hd with ⟨i, rfl, hY⟩ | ⟨rfl, hN⟩
    · obtain ⟨P, hP⟩ : ∃ P, P = a + i := ⟨_, rfl⟩
      have HP : Hid (P = a + i) := hP
      rw [← hP]
      have hPs : P < s.size := by rw [hP]; exact hY.ins
      have hPf : (P : Int) - (fr : Int) = ((u + i : Nat) : Int) := by have := hau.out; omega
      have hwp : IntKind.i64.wrap ((P : Int) - (fr : Int)) = ((u + i : Nat) : Int) := by rw [hPf, IntKind.wrap_i64]; omega
      have hPa : a ≤ P := by omega
      clear hP
      by_cases hin : rm ≤ ((u + i : Nat) : Int)
      · have hfar : rm < (s.size : Int) - (fr : Int) := by omega
        have HS : Hid (Sees (eat (stT m rm f b.data.toList [] 0) (s.data.toList.drop fr)) (u + ((rm - u).toNat + 1)) 104 false b.data.toList t) := Sees.on hst.out (HFar.out (rm - u).toNat (by omega) (fun i h1 h2 => hY.no i (by omega)) hfar)
        go_wp2_with fail
        refine (ropen_far 0 0 false b va t.length vc s (by omega) fr hfr rm 104 hr0 hfar _).mono ?_
        rintro x w6 ⟨rfl, hb6⟩
        have HRr : Hid (WB w6 (w.heap.size + 1) 0 0 false ⟨#[]⟩ (.slice none 0 0)) := hwr.out.bel hb6
        have HO6 : Hid (OwnF 78 (w.heap.size + 2) (.slice va t.length vc) t w6) := hown.out.below hb6
        have HB6 : Hid (Below w.heap.size w w6) := bel_up hbl.out hb6 (by omega)
        clear hb6
        obtain ⟨r0, r1, r2, r3, r4⟩ := HRr.out.c
        have f0 := HRr.out.f 0
        have f1 := HRr.out.f 1
        have f2 := HRr.out.f 2
        have f3 := HRr.out.f 3
        have f4 := HRr.out.f 4
        go_wp2
        refine bodyPost_ret (v := .agg #[.int .i64 ((fr : Int) + rm + 1), .int .i64 104, .bool false, .string b, .slice va t.length vc]) (by simp [results, Tryz.results44, go_sem, r0, r1, r2, r3, r4]) rfl ?_
        refine ⟨u + ((rm - u).toNat + 1), _, _, t, _, wkV_mk (by omega), HS.out, OwnF.base (B := w.heap.size + 2) ?_ (by omega), ?_⟩
        · have h := HO6.out
          repeat (refine OwnF.low ?_ (by simp) _)
          exact h
        · have h := HB6.out
          repeat (refine Below.setCell ?_ (by simp) _)
          exact h
      · have hlr : ((i : Nat) : Int) < rm - u := by omega
        have hl0 : noLf ((s.data.toList.drop a).take i) := noLf_of (fun j h1 h2 => by rw [dropG]; exact hY.no j h1)
        have hlen : ((s.data.toList.drop a).take i).length = i := by rw [List.length_take, HML.out]; have := HP.out; omega
        have hcut : s.data.toList.drop a = (s.data.toList.drop a).take i ++ 10 :: (s.data.toList.drop a).drop (i + 1) := cut_lf (by rw [HML.out]; have := HP.out; omega) (by rw [dropG]; exact hY.lf)
        have hrest : (s.data.toList.drop a).drop (i + 1) = s.data.toList.drop (P + 1) := by rw [List.drop_drop, HP.out, Nat.add_assoc]
        rw [hrest] at hcut
        have hll : (((s.data.toList.drop a).take i).length : Int) < rm - u := by rw [hlen]; exact hlr
        have HBad : Hid ((∀ k, (s.data.toList.drop a).take i ≠ k ++ [13]) → Sees (eat (stT m rm f b.data.toList t u) (s.data.toList.drop a)) (i + 1) 101 false b.data.toList t) := fun h => by
          have h := line4_bad (m := m) (f := f) (b := b.data.toList) (t := t) (r := s.data.toList.drop (P + 1)) hl0 hll h
          rw [← hcut, hlen] at h
          exact h
        have HEnd : Hid ((s.data.toList.drop a).take i = [] ++ [13] → Sees (eat (stT m rm f b.data.toList t u) (s.data.toList.drop a)) (i + 1) 0 true b.data.toList t) := fun h => by
          have h := line4_end (m := m) (f := f) (b := b.data.toList) (t := t) (r := s.data.toList.drop (P + 1)) hl0 hll h
          rw [← hcut, hlen] at h
          exact h
        have HMany : Hid (∀ k, (s.data.toList.drop a).take i = k ++ [13] → k ≠ [] → f - (t.length : Int) = 0 → Sees (eat (stT m rm f b.data.toList t u) (s.data.toList.drop a)) (i + 1) 104 false b.data.toList t) := fun k h h0 hf => by
          have h := line4_many (m := m) (f := f) (b := b.data.toList) (t := t) (r := s.data.toList.drop (P + 1)) hl0 hll h h0 hf
          rw [← hcut, hlen] at h
          exact h
        have HNot : Hid (∀ k, (s.data.toList.drop a).take i = k ++ [13] → k ≠ [] → f - (t.length : Int) ≠ 0 → ((parseL k).2.2 ≠ 0 ∨ trails (parseL k).1.1 = false) → Sees (eat (stT m rm f b.data.toList t u) (s.data.toList.drop a)) (i + 1) 101 false b.data.toList t) := fun k h h0 hf hp => by
          have h := line4_not (m := m) (f := f) (b := b.data.toList) (t := t) (r := s.data.toList.drop (P + 1)) hl0 hll h h0 hf hp
          rw [← hcut, hlen] at h
          exact h
        have HOn : Hid (∀ k, (s.data.toList.drop a).take i = k ++ [13] → k ≠ [] → f - (t.length : Int) ≠ 0 → ¬ ((parseL k).2.2 ≠ 0 ∨ trails (parseL k).1.1 = false) → eat (stT m rm f b.data.toList t u) (s.data.toList.drop a) = (i + 1 + (eat (stT m rm f b.data.toList (t ++ [(parseL k).1]) (u + (i + 1))) (s.data.toList.drop (P + 1))).1, (eat (stT m rm f b.data.toList (t ++ [(parseL k).1]) (u + (i + 1))) (s.data.toList.drop (P + 1))).2)) := fun k h h0 hf hp => by
          have h := line4_on (m := m) (f := f) (b := b.data.toList) (t := t) (r := s.data.toList.drop (P + 1)) hl0 hll h h0 hf hp
          rw [← hcut, hlen] at h
          exact h
        have HLast : Hid (∀ i1, i = i1 + 1 → (s.data.toList.drop a).take i = (s.data.toList.drop a).take i1 ++ [s.data.toList.getD (a + i1) 0]) := fun i1 h => by
          subst h
          have hlt : i1 < (s.data.toList.drop a).length := by rw [HML.out]; have := HP.out; omega
          rw [List.take_succ_eq_append_getElem hlt, ← dropG, List.getD_eq_getElem?_getD, List.getElem?_eq_getElem hlt]; rfl
        clear hl0 hlen hcut hrest hll hY
        by_cases hi0 : i = 0
        · have hPa0 : P = a := by have := HP.out; omega
          have HS : Hid (Sees (eat (stT m rm f b.data.toList [] 0) (s.data.toList.drop fr)) (u + (i + 1)) 101 false b.data.toList t) := Sees.on hst.out (HBad.out (fun k e => by subst hi0; simp at e))
          have HI0 : Hid (i = 0) := hi0
          subst hPa0
          have hq : ((P : Int) == (P : Int)) = true := by simp
          clear hi0
          go_wp2_with fail
          refine (rfailed_any 0 0 false b va t.length vc _ 101 (by omega) (by omega) _).mono ?_
          rintro x w6 ⟨rfl, hb6⟩
          have HRr : Hid (WB w6 (w.heap.size + 1) 0 0 false ⟨#[]⟩ (.slice none 0 0)) := hwr.out.bel hb6
          have HO6 : Hid (OwnF 78 (w.heap.size + 2) (.slice va t.length vc) t w6) := hown.out.below hb6
          have HB6 : Hid (Below w.heap.size w w6) := bel_up hbl.out hb6 (by omega)
          clear hb6
          obtain ⟨r0, r1, r2, r3, r4⟩ := HRr.out.c
          have f0 := HRr.out.f 0
          have f1 := HRr.out.f 1
          have f2 := HRr.out.f 2
          have f3 := HRr.out.f 3
          have f4 := HRr.out.f 4
          go_wp2
          refine bodyPost_ret (v := .agg #[.int .i64 ((P : Int) + 1), .int .i64 101, .bool false, .string b, .slice va t.length vc]) (by simp [results, Tryz.results44, go_sem, r0, r1, r2, r3, r4]) rfl ?_
          refine ⟨u + (i + 1), _, _, t, _, wkV_mk (by have := hau.out; have := HI0.out; omega), HS.out, OwnF.base (B := w.heap.size + 2) ?_ (by omega), ?_⟩
          · have h := HO6.out
            repeat (refine OwnF.low ?_ (by simp) _)
            exact h
          · have h := HB6.out
            repeat (refine Below.setCell ?_ (by simp) _)
            exact h
        · obtain ⟨i1, rfl⟩ : ∃ i1, i = i1 + 1 := ⟨i - 1, by omega⟩
          obtain ⟨Q, hQ⟩ : ∃ Q, P = Q + 1 := ⟨P - 1, by have := HP.out; omega⟩
          subst hQ
          have HQ : Hid (Q = a + i1) := (by have := HP.out; omega : Q = a + i1)
          have hQs : Q < s.size := by omega
          have hby : ((s[Q].toNat : Nat) : Int) = byt s Q := byt_at s Q hQs
          have hne : (((Q : Int) + 1) == (a : Int)) = false := by have := HQ.out; simp; omega
          have HL2 : Hid ((s.data.toList.drop a).take (i1 + 1) = (s.data.toList.drop a).take i1 ++ [s.data.toList.getD Q 0]) := (by rw [HQ.out]; exact HLast.out i1 rfl : (s.data.toList.drop a).take (i1 + 1) = _)
          have hQa : a ≤ Q := by have := HQ.out; omega
          by_cases h13 : s.data.toList.getD Q 0 = 13
          · have q13 : (byt s Q != 13) = false := by unfold byt; rw [h13]; rfl
            obtain ⟨X, hX⟩ : ∃ X, X = s.extract a Q := ⟨_, rfl⟩
            have HX : Hid (X = s.extract a Q) := hX
            have HXl : Hid (X.data.toList = (s.data.toList.drop a).take i1) := (by rw [hX, Lib.extract_data, HQ.out, show a + i1 - a = i1 by omega] : X.data.toList = _)
            have hXs : X.size = i1 := by
              have h := congrArg List.length HXl.out
              rw [size_list, List.length_take, HML.out] at h
              have := HQ.out
              omega
            have HL3 : Hid ((s.data.toList.drop a).take (i1 + 1) = X.data.toList ++ [13]) := (by rw [HL2.out, h13, HXl.out] : (s.data.toList.drop a).take (i1 + 1) = _)
            clear h13
            by_cases hz : i1 = 0
            · have hXe : (s.extract a Q).toList.isEmpty = true := by rw [← hX]; exact empty_of (by omega)
              have HS : Hid (Sees (eat (stT m rm f b.data.toList [] 0) (s.data.toList.drop fr)) (u + (i1 + 1 + 1)) 0 true b.data.toList t) := Sees.on hst.out (HEnd.out (by
                have h := HL3.out
                rw [show X.data.toList = [] from List.eq_nil_of_length_eq_zero (by rw [size_list]; omega)] at h
                exact h))
              have HI1 : Hid (i1 = 0) := hz
              have fa0 := hwa.out.f 0
              have fa2 := hwa.out.f 2
              have HWa2 : Hid (WB ((wr.setCell ⟨w.heap.size, 0, none⟩ (.int .i64 ((Q : Int) + 1 + 1))).setCell ⟨w.heap.size, 2, none⟩ (.bool true)) w.heap.size ((Q : Int) + 1 + 1) 0 true b (.slice va t.length vc)) := (hwa.out.set0 _).set2 _
              have HRr : Hid (WB wr (w.heap.size + 1) 0 0 false ⟨#[]⟩ (.slice none 0 0)) := hwr
              clear hz hX
              obtain ⟨r0, r1, r2, r3, r4⟩ := HRr.out.c
              have f0 := HRr.out.f 0
              have f1 := HRr.out.f 1
              have f2 := HRr.out.f 2
              have f3 := HRr.out.f 3
              have f4 := HRr.out.f 4
              go_wp2
              refine bodyPost_ret (v := .agg #[.int .i64 ((Q : Int) + 1 + 1), .int .i64 0, .bool true, .string b, .slice va t.length vc]) (by simp [results, Tryz.results44, go_sem, r0, r1, r2, r3, r4, c0, c1, c2, c3, c4]) rfl ?_
              refine ⟨u + (i1 + 1 + 1), _, _, t, _, wkV_mk (by have := hau.out; have := HQ.out; omega), HS.out, OwnF.base (B := w.heap.size + 2) ?_ (by omega), ?_⟩
              · have h := hown.out
                repeat (refine OwnF.low ?_ (by simp) _)
                exact h
              · have h := hbl.out
                repeat (refine Below.setCell ?_ (by simp) _)
                exact h
            · have hXe : (s.extract a Q).toList.isEmpty = false := by rw [← hX]; exact nonempty_of (by omega)
              have hXn : X.data.toList ≠ [] := fun e => hz (by have h := size_list X; rw [e] at h; simp at h; omega)
              clear hX
              by_cases hfu : f - (t.length : Int) = 0
              · have HS : Hid (Sees (eat (stT m rm f b.data.toList [] 0) (s.data.toList.drop fr)) (u + (i1 + 1 + 1)) 104 false b.data.toList t) := Sees.on hst.out (HMany.out X.data.toList HL3.out hXn hfu)
                have hfl : f ≤ (t.length : Int) := by omega
                clear hfu hXn
                go_wp2_with fail
                refine (rfailed_any 0 0 false b va t.length vc _ 104 (by omega) (by omega) _).mono ?_
                rintro x w6 ⟨rfl, hb6⟩
                have HRr : Hid (WB w6 (w.heap.size + 1) 0 0 false ⟨#[]⟩ (.slice none 0 0)) := hwr.out.bel hb6
                have HO6 : Hid (OwnF 78 (w.heap.size + 2) (.slice va t.length vc) t w6) := hown.out.below hb6
                have HB6 : Hid (Below w.heap.size w w6) := bel_up hbl.out hb6 (by omega)
                clear hb6
                obtain ⟨r0, r1, r2, r3, r4⟩ := HRr.out.c
                have f0 := HRr.out.f 0
                have f1 := HRr.out.f 1
                have f2 := HRr.out.f 2
                have f3 := HRr.out.f 3
                have f4 := HRr.out.f 4
                go_wp2
                refine bodyPost_ret (v := .agg #[.int .i64 ((Q : Int) + 1 + 1), .int .i64 104, .bool false, .string b, .slice va t.length vc]) (by simp [results, Tryz.results44, go_sem, r0, r1, r2, r3, r4]) rfl ?_
                refine ⟨u + (i1 + 1 + 1), _, _, t, _, wkV_mk (by have := hau.out; have := HQ.out; omega), HS.out, OwnF.base (B := w.heap.size + 2) ?_ (by omega), ?_⟩
                · have h := HO6.out
                  repeat (refine OwnF.low ?_ (by simp) _)
                  exact h
                · have h := HB6.out
                  repeat (refine Below.setCell ?_ (by simp) _)
                  exact h
              · have hfl : ¬ (f ≤ (t.length : Int)) := by omega
                have HPL : Hid (∀ w, Calls Tryz.prog 59 #[.string X] w fun e w' => e = .returned (lineV (parseL X.data.toList)) ∧ Below w.heap.size w w') := fun w => rParseLine_any X (by omega) w
                have HNo2 : Hid ((parseL X.data.toList).2.2 ≠ 0 ∨ trails (parseL X.data.toList).1.1 = false → Sees (eat (stT m rm f b.data.toList [] 0) (s.data.toList.drop fr)) (u + (i1 + 1 + 1)) 101 false b.data.toList t) := fun h => Sees.on hst.out (HNot.out X.data.toList HL3.out hXn hfu h)
                have HOn2 : Hid (¬ ((parseL X.data.toList).2.2 ≠ 0 ∨ trails (parseL X.data.toList).1.1 = false) → eat (stT m rm f b.data.toList [] 0) (s.data.toList.drop fr) = (u + (i1 + 1 + 1) + (eat (stT m rm f b.data.toList (t ++ [(parseL X.data.toList).1]) (u + (i1 + 1 + 1))) (s.data.toList.drop (Q + 1 + 1))).1, (eat (stT m rm f b.data.toList (t ++ [(parseL X.data.toList).1]) (u + (i1 + 1 + 1))) (s.data.toList.drop (Q + 1 + 1))).2)) := fun h => eat_on hst.out (HOn.out X.data.toList HL3.out hXn hfu h)
                have hpl : (parseL X.data.toList).1.1.length ≤ maxLen := parseL_name X.data.toList (by rw [size_list]; unfold maxLen; omega)
                have HMT : Hid (∀ w, Calls Tryz.prog 60 #[.string (str (parseL X.data.toList).1.1)] w fun e w' => e = .returned (.bool (trails (parseL X.data.toList).1.1)) ∧ Below w.heap.size w w') := fun w => rMayTrail_any _ hpl w
                clear hpl hXn hfu HFar HNear HBad HEnd HMany HNot HOn HLast HL2 HL3
                generalize parseL X.data.toList = q at *
                obtain ⟨⟨pn, pv⟩, pp, pe⟩ := q
                simp only at HNo2 HOn2 HMT
                unfold lineV at HPL
                simp only at HPL
                generalize hN0 : str pn = N0 at *
                generalize hV0 : str pv = V0 at *
                have HN0 : Hid (N0 = str pn) := hN0.symm
                have HV0 : Hid (V0 = str pv) := hV0.symm
                clear hN0 hV0
                go_wp2_with fail
                rw [← HX.out]
                refine (HPL.out _).mono ?_
                rintro x w4 ⟨rfl, hb4⟩
                have hs4 := hb4.size
                have HW4 : Hid (WB w4 w.heap.size 0 0 false b (.slice va t.length vc)) := hwa.out.bel hb4
                have HR4 : Hid (WB w4 (w.heap.size + 1) 0 0 false ⟨#[]⟩ (.slice none 0 0)) := hwr.out.bel hb4
                have HO4 : Hid (OwnF 78 (w.heap.size + 2) (.slice va t.length vc) t w4) := hown.out.below hb4
                have HB4 : Hid (Below w.heap.size w w4) := bel_up hbl.out hb4 (by omega)
                obtain ⟨d0, d1, d2, d3, d4⟩ := HW4.out.c
                have hsz4 := HR4.out.lt
                clear hb4
                have hA4 : Below w4.heap.size w4 (w4.alloc (.cells #[.string N0, .string V0] 78)) := (Below.refl _ _).alloc (Nat.le_refl _) _
                have HF4 : Hid ((w4.alloc (.cells #[.string N0, .string V0] 78)).heap[w4.heap.size]? = some (.cells #[.string N0, .string V0] 78 (0, 0))) := heap_alloc_new _ _
                have HW5 : Hid (WB (w4.alloc (.cells #[.string N0, .string V0] 78)) w.heap.size 0 0 false b (.slice va t.length vc)) := HW4.out.bel hA4
                have HR5 : Hid (WB (w4.alloc (.cells #[.string N0, .string V0] 78)) (w.heap.size + 1) 0 0 false ⟨#[]⟩ (.slice none 0 0)) := HR4.out.bel hA4
                have HO5 : Hid (OwnF 78 (w.heap.size + 2) (.slice va t.length vc) t (w4.alloc (.cells #[.string N0, .string V0] 78))) := HO4.out.below hA4
                have HB5 : Hid (Below w.heap.size w (w4.alloc (.cells #[.string N0, .string V0] 78))) := bel_up HB4.out hA4 (by omega)
                clear hA4
                by_cases hpe : pe = 0
                · subst hpe
                  go_wp2_with fail
                  refine (HMT.out _).mono ?_
                  rintro x w5 ⟨rfl, hb5⟩
                  have HW6 : Hid (WB w5 w.heap.size 0 0 false b (.slice va t.length vc)) := HW5.out.bel hb5
                  have HR6 : Hid (WB w5 (w.heap.size + 1) 0 0 false ⟨#[]⟩ (.slice none 0 0)) := HR5.out.bel hb5
                  have HO6' : Hid (OwnF 78 (w.heap.size + 2) (.slice va t.length vc) t w5) := HO5.out.below hb5
                  have HB6' : Hid (Below w.heap.size w w5) := bel_up HB5.out hb5 (by simp; omega)
                  have HF6 : Hid (w5.heap[w4.heap.size]? = some (.cells #[.string N0, .string V0] 78 (0, 0))) := (But.of_below hb5).heap HF4.out (fun e => by cases e)
                  obtain ⟨g0, g1, g2, g3, g4⟩ := HW6.out.c
                  have gf := HW6.out.f 4
                  have k0 : w5.cell? ⟨w4.heap.size, 0, none⟩ = some (.string N0) := by rw [cell_of_row w5 _ _ _ _ _ HF6.out]; rfl
                  have k1 : w5.cell? ⟨w4.heap.size, 1, none⟩ = some (.string V0) := by rw [cell_of_row w5 _ _ _ _ _ HF6.out]; rfl
                  have hsz5 := HR6.out.lt
                  clear hb5
                  cases htr : trails pn with
                  | false =>
                    have HS : Hid (Sees (eat (stT m rm f b.data.toList [] 0) (s.data.toList.drop fr)) (u + (i1 + 1 + 1)) 101 false b.data.toList t) := HNo2.out (.inr htr)
                    go_wp2_with fail
                    refine (rfailed_any 0 0 false b va t.length vc _ 101 (by omega) (by omega) _).mono ?_
                    rintro x w6 ⟨rfl, hb6⟩
                    have HRr : Hid (WB w6 (w.heap.size + 1) 0 0 false ⟨#[]⟩ (.slice none 0 0)) := HR6.out.bel hb6
                    have HO7 : Hid (OwnF 78 (w.heap.size + 2) (.slice va t.length vc) t w6) := HO6'.out.below hb6
                    have HB7 : Hid (Below w.heap.size w w6) := bel_up HB6'.out hb6 (by omega)
                    clear hb6
                    obtain ⟨r0, r1, r2, r3, r4⟩ := HRr.out.c
                    have f0 := HRr.out.f 0
                    have f1 := HRr.out.f 1
                    have f2 := HRr.out.f 2
                    have f3 := HRr.out.f 3
                    have f4 := HRr.out.f 4
                    go_wp2
                    refine bodyPost_ret (v := .agg #[.int .i64 ((Q : Int) + 1 + 1), .int .i64 101, .bool false, .string b, .slice va t.length vc]) (by simp [results, Tryz.results44, go_sem, r0, r1, r2, r3, r4]) rfl ?_
                    refine ⟨u + (i1 + 1 + 1), _, _, t, _, wkV_mk (by have := hau.out; have := HQ.out; omega), HS.out, OwnF.base (B := w.heap.size + 2) ?_ (by omega), ?_⟩
                    · have h := HO7.out
                      repeat (refine OwnF.low ?_ (by simp) _)
                      exact h
                    · have h := HB7.out
                      repeat (refine Below.setCell ?_ (by simp) _)
                      exact h
                  | true =>
                    have HN2 : Hid (eat (stT m rm f b.data.toList [] 0) (s.data.toList.drop fr) = (u + (i1 + 1 + 1) + (eat (stT m rm f b.data.toList (t ++ [(pn, pv)]) (u + (i1 + 1 + 1))) (s.data.toList.drop (Q + 1 + 1))).1, (eat (stT m rm f b.data.toList (t ++ [(pn, pv)]) (u + (i1 + 1 + 1))) (s.data.toList.drop (Q + 1 + 1))).2)) := HOn2.out (by rintro (h | h); exact h rfl; rw [htr] at h; cases h)
                    clear HNo2 HOn2 htr
                    have hl1 : t.length + 1 ≤ 2147483648 := by have := hau.out; omega
                    go_wp2_with (at_builtin; go_must (refine wp_appF 78 41 infoFr Tryz.underlying41 rfl (.tmp 88) (.tmp 90) rfl (w.heap.size + 2) _ t _ (pn, pv) _ _ HN0.out HV0.out rfl HO6'.out _ rfl (by simp) hl1 (by omega) ?_); intro v8 w8 ho8 hb8; have HO8 : Hid (OwnF 78 (w.heap.size + 2) v8 (t ++ [(pn, pv)]) w8) := ho8; have HW8 : Hid (WB w8 w.heap.size 0 0 false b (.slice va t.length vc)) := HW6.out.below hb8 (by omega); have HR8 : Hid (WB w8 (w.heap.size + 1) 0 0 false ⟨#[]⟩ (.slice none 0 0)) := HR6.out.below hb8 (by omega); have HB8 : Hid (Below w.heap.size w w8) := HB6'.out.trans (hb8.mono (by omega)); clear ho8 hb8; obtain ⟨y0, y1, y2, y3, y4⟩ := HW8.out.c; have yf := HW8.out.f 4; obtain ⟨va8, vc8, hv8⟩ := OwnF.form HO8.out; rw [show (t ++ [(pn, pv)]).length = t.length + 1 by simp] at hv8; subst hv8)
                    go_roundw
                    case rel =>
                      refine ⟨Q + 1 + 1, u + (i1 + 1 + 1), t ++ [(pn, pv)], .slice va8 (t.length + 1) vc8, by omega, by go_num, by omega, by simp; omega, by simp; omega, (by have := hau.out; have := HQ.out; omega : Q + 1 + 1 = fr + (u + (i1 + 1 + 1))), HN2, HW8.out.set4 _, HR8.out.other (by simp) _, OwnF.low HO8.out (by simp) _, HB8.out.setCell (by simp) _⟩
                    case measure => simp [intOf]; omega
                · have hpe' : (pe != 0) = true := by simp [hpe]
                  have HS : Hid (Sees (eat (stT m rm f b.data.toList [] 0) (s.data.toList.drop fr)) (u + (i1 + 1 + 1)) 101 false b.data.toList t) := HNo2.out (.inl hpe)
                  obtain ⟨g0, g1, g2, g3, g4⟩ := HW5.out.c
                  clear hpe HNo2 HOn2
                  go_wp2_with fail
                  refine (rfailed_any 0 0 false b va t.length vc _ 101 (by omega) (by omega) _).mono ?_
                  rintro x w6 ⟨rfl, hb6⟩
                  have HRr : Hid (WB w6 (w.heap.size + 1) 0 0 false ⟨#[]⟩ (.slice none 0 0)) := HR5.out.bel hb6
                  have HO6 : Hid (OwnF 78 (w.heap.size + 2) (.slice va t.length vc) t w6) := HO5.out.below hb6
                  have HB6 : Hid (Below w.heap.size w w6) := bel_up HB5.out hb6 (by simp; omega)
                  clear hb6
                  obtain ⟨r0, r1, r2, r3, r4⟩ := HRr.out.c
                  have f0 := HRr.out.f 0
                  have f1 := HRr.out.f 1
                  have f2 := HRr.out.f 2
                  have f3 := HRr.out.f 3
                  have f4 := HRr.out.f 4
                  go_wp2
                  refine bodyPost_ret (v := .agg #[.int .i64 ((Q : Int) + 1 + 1), .int .i64 101, .bool false, .string b, .slice va t.length vc]) (by simp [results, Tryz.results44, go_sem, r0, r1, r2, r3, r4]) rfl ?_
                  refine ⟨u + (i1 + 1 + 1), _, _, t, _, wkV_mk (by have := hau.out; have := HQ.out; omega), HS.out, OwnF.base (B := w.heap.size + 2) ?_ (by omega), ?_⟩
                  · have h := HO6.out
                    repeat (refine OwnF.low ?_ (by simp) _)
                    exact h
                  · have h := HB6.out
                    repeat (refine Below.setCell ?_ (by simp) _)
                    exact h
          · have q13 : (byt s Q != 13) = true := by
              simp only [bne_iff_ne, ne_eq]
              intro e
              exact h13 (UInt8.toNat_inj.1 (by unfold byt at e; show _ = 13; omega))
            have HS : Hid (Sees (eat (stT m rm f b.data.toList [] 0) (s.data.toList.drop fr)) (u + (i1 + 1 + 1)) 101 false b.data.toList t) := Sees.on hst.out (HBad.out (fun k e => by
              rw [HL2.out] at e
              have e2 := (List.append_inj' e rfl).2
              injection e2 with e2 _
              exact h13 e2))
            clear h13
            go_wp2_with fail
            refine (rfailed_any 0 0 false b va t.length vc _ 101 (by omega) (by omega) _).mono ?_
            rintro x w6 ⟨rfl, hb6⟩
            have HRr : Hid (WB w6 (w.heap.size + 1) 0 0 false ⟨#[]⟩ (.slice none 0 0)) := hwr.out.bel hb6
            have HO6 : Hid (OwnF 78 (w.heap.size + 2) (.slice va t.length vc) t w6) := hown.out.below hb6
            have HB6 : Hid (Below w.heap.size w w6) := bel_up hbl.out hb6 (by omega)
            clear hb6
            obtain ⟨r0, r1, r2, r3, r4⟩ := HRr.out.c
            have f0 := HRr.out.f 0
            have f1 := HRr.out.f 1
            have f2 := HRr.out.f 2
            have f3 := HRr.out.f 3
            have f4 := HRr.out.f 4
            go_wp2
            refine bodyPost_ret (v := .agg #[.int .i64 ((Q : Int) + 1 + 1), .int .i64 101, .bool false, .string b, .slice va t.length vc]) (by simp [results, Tryz.results44, go_sem, r0, r1, r2, r3, r4]) rfl ?_
            refine ⟨u + (i1 + 1 + 1), _, _, t, _, wkV_mk (by have := hau.out; have := HQ.out; omega), HS.out, OwnF.base (B := w.heap.size + 2) ?_ (by omega), ?_⟩
            · have h := HO6.out
              repeat (refine OwnF.low ?_ (by simp) _)
              exact h
            · have h := HB6.out
              repeat (refine Below.setCell ?_ (by simp) _)
              exact h
    · by_cases hfar : rm < (s.size : Int) - (fr : Int)
      · have HS : Hid (Sees (eat (stT m rm f b.data.toList [] 0) (s.data.toList.drop fr)) (u + ((rm - u).toNat + 1)) 104 false b.data.toList t) := Sees.on hst.out (HFar.out (rm - u).toNat (by omega) (fun i h1 h2 => hN.no i (by omega) h2) hfar)
        go_wp2_with fail
        refine (ropen_far 0 0 false b va t.length vc s (by omega) fr hfr rm 104 hr0 hfar _).mono ?_
        rintro x w6 ⟨rfl, hb6⟩
        have HRr : Hid (WB w6 (w.heap.size + 1) 0 0 false ⟨#[]⟩ (.slice none 0 0)) := hwr.out.bel hb6
        have HO6 : Hid (OwnF 78 (w.heap.size + 2) (.slice va t.length vc) t w6) := hown.out.below hb6
        have HB6 : Hid (Below w.heap.size w w6) := bel_up hbl.out hb6 (by omega)
        clear hb6
        obtain ⟨r0, r1, r2, r3, r4⟩ := HRr.out.c
        have f0 := HRr.out.f 0
        have f1 := HRr.out.f 1
        have f2 := HRr.out.f 2
        have f3 := HRr.out.f 3
        have f4 := HRr.out.f 4
        go_wp2
        refine bodyPost_ret (v := .agg #[.int .i64 ((fr : Int) + rm + 1), .int .i64 104, .bool false, .string b, .slice va t.length vc]) (by simp [results, Tryz.results44, go_sem, r0, r1, r2, r3, r4]) rfl ?_
        refine ⟨u + ((rm - u).toNat + 1), _, _, t, _, wkV_mk (by omega), HS.out, OwnF.base (B := w.heap.size + 2) ?_ (by omega), ?_⟩
        · have h := HO6.out
          repeat (refine OwnF.low ?_ (by simp) _)
          exact h
        · have h := HB6.out
          repeat (refine Below.setCell ?_ (by simp) _)
          exact h
      · have HS : Hid (Sees (eat (stT m rm f b.data.toList [] 0) (s.data.toList.drop fr)) (u + (s.size - a)) 0 false b.data.toList t) := Sees.on hst.out (HNear.out (fun i h1 h2 => hN.no i (by omega) h2) (by omega))
        go_wp2_with fail
        refine (ropen_near 0 0 false b va t.length vc s (by omega) fr hfr rm 104 (by omega) _).mono ?_
        rintro x w6 ⟨rfl, hb6⟩
        have HRr : Hid (WB w6 (w.heap.size + 1) 0 0 false ⟨#[]⟩ (.slice none 0 0)) := hwr.out.bel hb6
        have HO6 : Hid (OwnF 78 (w.heap.size + 2) (.slice va t.length vc) t w6) := hown.out.below hb6
        have HB6 : Hid (Below w.heap.size w w6) := bel_up hbl.out hb6 (by omega)
        clear hb6
        obtain ⟨r0, r1, r2, r3, r4⟩ := HRr.out.c
        have f0 := HRr.out.f 0
        have f1 := HRr.out.f 1
        have f2 := HRr.out.f 2
        have f3 := HRr.out.f 3
        have f4 := HRr.out.f 4
        go_wp2
        refine bodyPost_ret (v := .agg #[.int .i64 ((s.size : Int)), .int .i64 0, .bool false, .string b, .slice va t.length vc]) (by simp [results, Tryz.results44, go_sem, r0, r1, r2, r3, r4]) rfl ?_
        refine ⟨u + (s.size - a), _, _, t, _, wkV_mk (by have := hau.out; omega), HS.out, OwnF.base (B := w.heap.size + 2) ?_ (by omega), ?_⟩
        · have h := HO6.out
          repeat (refine OwnF.low ?_ (by simp) _)
          exact h
        · have h := HB6.out
          repeat (refine Below.setCell ?_ (by simp) _)
          exact h

end Ck
end Go.Proofs.YtdbnlpnnfnodnaaGreatDoor
