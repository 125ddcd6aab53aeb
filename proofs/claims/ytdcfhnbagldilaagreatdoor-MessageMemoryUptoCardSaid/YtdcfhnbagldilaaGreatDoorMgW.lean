import Derived.Test.YtdcfhnbagldilaaGreatDoorMgQ
import Derived.Test.YtdcfhnbagldilaaGreatDoorMgV
import Derived.Test.YtdcfhnbagldilaaGreatDoorMgS
import Derived.Test.YtdcfhnbagldilaaGreatDoorMgO
import Derived.Test.YtdcfhnbagldilaaGreatDoorMgJ
import Derived.Test.YtdcfhnbagldilaaGreatDoorMgR
set_option linter.unusedVariables false
set_option linter.unusedSimpArgs false
set_option maxRecDepth 100000
namespace Go.Proofs.YtdcfhnbagldilaaGreatDoor
open Go.RowKit Go.Shelf
namespace Ck
open Oc Tg _root_.Go.Proofs.YtdcfhnbagldilaaGreatDoor.Fd
theorem dropG (l : List UInt8) (a j : Nat) : (l.drop a).getD j 0 = l.getD (a + j) 0 := by
  rw [List.getD_eq_getElem?_getD, List.getD_eq_getElem?_getD, List.getElem?_drop]
def noLf (l : List UInt8) : Prop := ∀ c ∈ l, c ≠ 10
def lineS (s : DS) (l : List UInt8) : DS := { s with line := s.line ++ l }
theorem eat_put0 : ∀ (l r : List UInt8) (s : DS), s.mode = 0 → noLf l → s.line.length + l.length < 256 → eat s (l ++ r) = (l.length + (eat (lineS s l) r).1, (eat (lineS s l) r).2)
  | [], r, s, hm, hn, hl => by simp [lineS]
  | c :: l, r, s, hm, hn, hl => by
    have hc : c ≠ 10 := hn c (by simp)
    simp only [List.length_cons] at hl
    have hb : bstep s c = put s c := by
      unfold bstep; rw [hm]; show inSize s c = _
      unfold inSize; rw [if_neg hc, if_neg (by omega)]
    rw [List.cons_append, eat_cons (by omega), hb, eat_put0 l r (put s c) hm (fun d hd => hn d (by simp [hd])) (by simp [put]; omega)]
    have e : lineS (put s c) l = lineS s (c :: l) := by simp [lineS, put]
    rw [e]
    simp only [List.length_cons, Prod.mk.injEq, and_true]
    omega
theorem eat_long0 (l r : List UInt8) (s : DS) (hm : s.mode = 0) (hn : noLf l) (h0 : s.line = []) (hl : l.length = 256) : eat s (l ++ r) = (256, fin s 100) := by
  obtain ⟨a, c, rfl⟩ : ∃ a c, l = a ++ [c] := by
    rcases List.eq_nil_or_concat l with h | ⟨a, c, h⟩
    · subst h; simp at hl
    · exact ⟨a, c, by simpa using h⟩
  simp only [List.length_append, List.length_cons, List.length_nil] at hl
  have hc : c ≠ 10 := hn c (by simp)
  rw [List.append_assoc, eat_put0 a _ s hm (fun d hd => hn d (by simp [hd])) (by rw [h0]; simp; omega)]
  have hm' : (lineS s a).mode = 0 := hm
  have hb : bstep (lineS s a) c = fin s 100 := by
    unfold bstep; rw [hm']; show inSize _ c = _
    unfold inSize; rw [if_neg hc, if_pos (by simp [lineS, h0]; omega)]
    rfl
  rw [List.cons_append, List.nil_append, eat_cons (by omega), hb, eat_over (by rfl)]
  simp only [Prod.mk.injEq, and_true]
  omega
theorem eat_open0 (l : List UInt8) (s : DS) (hm : s.mode = 0) (hn : noLf l) (h0 : s.line = []) (hl : l.length < 256) : eat s l = (l.length, lineS s l) := by
  have h := eat_put0 l [] s hm hn (by rw [h0]; simpa using hl)
  rw [List.append_nil, eat_nil] at h
  simpa using h
theorem eat_line0 (l r : List UInt8) (s : DS) (hm : s.mode = 0) (hn : noLf l) (h0 : s.line = []) (hl : l.length < 256) :
    eat s (l ++ 10 :: r) = (l.length + 1 + (eat (endSize (lineS s (l ++ [10]))) r).1, (eat (endSize (lineS s (l ++ [10]))) r).2) := by
  rw [eat_put0 l _ s hm hn (by rw [h0]; simpa using hl)]
  have hm' : (lineS s l).mode = 0 := hm
  have hb : bstep (lineS s l) 10 = endSize (lineS s (l ++ [10])) := by
    unfold bstep; rw [hm']; show inSize _ _ = _
    unfold inSize; rw [if_pos rfl]
    simp [lineS, put]
  rw [eat_cons (by omega), hb]
  simp only [Prod.mk.injEq, and_true]
  omega
theorem suffix_yes (k : List UInt8) : Lib.hasSuffix (k ++ [13] ++ [10]) crlf = true ∧ Lib.trimSuffix (k ++ [13] ++ [10]) crlf = k := by
  have h : Lib.hasSuffix (k ++ [13] ++ [10]) crlf = true := by
    unfold Lib.hasSuffix crlf
    rw [List.isSuffixOf_iff_suffix]
    exact ⟨k, by simp⟩
  refine ⟨h, ?_⟩
  unfold Lib.trimSuffix
  rw [if_pos h]
  simp [crlf]
theorem suffix_no (l : List UInt8) (h : ∀ k, l ≠ k ++ [13]) : Lib.hasSuffix (l ++ [10]) crlf = false := by
  unfold Lib.hasSuffix crlf
  rw [Bool.eq_false_iff]
  intro e
  rw [List.isSuffixOf_iff_suffix] at e
  obtain ⟨k, hk⟩ := e
  have : (k ++ [13]) ++ [10] = l ++ [10] := by rw [← hk]; simp
  exact h k (List.append_cancel_right this).symm
def stS (most room fields : Int) (b : List UInt8) : DS := ⟨0, false, 0, most - b.length, room, fields, 0, 0, [], b, []⟩
theorem stS_new (most room fields : Int) : stS most room fields [] = new most room fields := by simp [stS, new]
theorem endSize_bad {s : DS} {l : List UInt8} (h0 : s.line = []) (h : ∀ k, l ≠ k ++ [13]) : endSize (lineS s (l ++ [10])) = fin s 100 := by
  unfold endSize
  rw [if_pos (by unfold right lineS; rw [h0]; exact suffix_no l h)]
  rfl
theorem endSize_yes {s : DS} {k : List UInt8} (h0 : s.line = []) : endSize (lineS s (k ++ [13] ++ [10])) = if (sizeR k).2.2 ≠ 0 then fin s (sizeR k).2.2 else if s.most < (sizeR k).1 then fin s 102 else if (sizeR k).1 = 0 then { s with mode := 4 } else { s with most := s.most - (sizeR k).1, left := (sizeR k).1, mode := 1 } := by
  have e1 : right (lineS s (k ++ [13] ++ [10])) = true := by unfold right lineS; rw [h0]; exact (suffix_yes k).1
  have e2 : said (lineS s (k ++ [13] ++ [10])) = k := by unfold said lineS; rw [h0]; exact (suffix_yes k).2
  have e3 : bare (lineS s (k ++ [13] ++ [10])) = s := by unfold bare lineS; cases s; simp at h0; subst h0; rfl
  unfold endSize
  rw [if_neg (by rw [e1]; decide), e2, e3]
  rfl
theorem inChunk_all {most room fields : Int} {b t : List UInt8} {n : Int} (hn : (t.length : Int) = n) :
    inChunk { (stS most room fields b) with most := most - b.length - n, left := n, mode := 1 } t = { (stS most room fields (b ++ t)) with mode := 2 } := by
  unfold inChunk stS
  simp only [List.length_append]
  rw [if_pos (by omega)]
  congr 1 <;> omega
theorem eat_put4 : ∀ (l r : List UInt8) (s : DS), s.mode = 4 → noLf l → (l.length : Int) ≤ s.room → eat s (l ++ r) = (l.length + (eat { (lineS s l) with room := s.room - l.length } r).1, (eat { (lineS s l) with room := s.room - l.length } r).2)
  | [], r, s, hm, hn, hl => by simp [lineS]
  | c :: l, r, s, hm, hn, hl => by
    have hc : c ≠ 10 := hn c (by simp)
    simp only [List.length_cons] at hl
    have hb0 : bstep s c = inTrailers s c := by unfold bstep; rw [hm]; rfl
    have hb : bstep s c = put { s with room := s.room - 1 } c := by
      rw [hb0]
      unfold inTrailers; rw [if_neg (by omega), if_neg hc]
    rw [List.cons_append, eat_cons (by omega), hb, eat_put4 l r (put { s with room := s.room - 1 } c) hm (fun d hd => hn d (by simp [hd])) (by simp [put]; omega)]
    have e : ({ (lineS (put { s with room := s.room - 1 } c) l) with room := (put { s with room := s.room - 1 } c).room - l.length } : DS) = { (lineS s (c :: l)) with room := s.room - (c :: l).length } := by
      simp [lineS, put]; omega
    rw [e]
    simp only [List.length_cons, Prod.mk.injEq, and_true]
    omega
theorem eat_full4 (c : UInt8) (r : List UInt8) (s : DS) (hm : s.mode = 4) (h : s.room = 0) : eat s (c :: r) = (1, fin s 104) := by
  have hb : bstep s c = fin s 104 := by
    unfold bstep; rw [hm]; show inTrailers s c = _
    unfold inTrailers; rw [if_pos h]
  rw [eat_cons (by omega), hb, eat_over (by rfl)]
theorem eat_line4 (l r : List UInt8) (s : DS) (hm : s.mode = 4) (hn : noLf l) (hl : (l.length : Int) < s.room) :
    eat s (l ++ 10 :: r) = (l.length + 1 + (eat (endTrailer { (lineS s (l ++ [10])) with room := s.room - l.length - 1 }) r).1, (eat (endTrailer { (lineS s (l ++ [10])) with room := s.room - l.length - 1 }) r).2) := by
  rw [eat_put4 l _ s hm hn (by omega)]
  have hb : bstep { (lineS s l) with room := s.room - l.length } 10 = endTrailer { (lineS s (l ++ [10])) with room := s.room - l.length - 1 } := by
    unfold bstep
    show (match s.mode with | 0 => _ | 1 => _ | 2 => _ | 3 => _ | 4 => _ | _ => _) = _
    rw [hm]; show inTrailers _ _ = _
    unfold inTrailers
    rw [if_neg (by show ¬ (s.room - l.length = 0); omega), if_pos rfl]
    simp [lineS, put]
  rw [eat_cons (by show s.mode ≠ 5; omega), hb]
  simp only [Prod.mk.injEq, and_true]
  omega
def stT (most room fields : Int) (b : List UInt8) (t : List Fl) (u : Nat) : DS := ⟨4, false, 0, most - b.length, room - u, fields - t.length, 0, 0, [], b, t⟩
theorem stT_of (most room fields : Int) (b : List UInt8) : { (stS most room fields b) with mode := 4 } = stT most room fields b [] 0 := by simp [stT, stS]
theorem endTrailer_bad {s : DS} {l : List UInt8} {x : Int} (h0 : s.line = []) (h : ∀ k, l ≠ k ++ [13]) : endTrailer { (lineS s (l ++ [10])) with room := x } = fin { s with room := x } 101 := by
  unfold endTrailer
  rw [if_pos (by unfold right lineS; rw [h0]; exact suffix_no l h)]
  rfl
theorem endTrailer_yes {s : DS} {k : List UInt8} {x : Int} (h0 : s.line = []) : endTrailer { (lineS s (k ++ [13] ++ [10])) with room := x } = if k = [] then fin { s with room := x } 0 else if s.fields = 0 then fin { s with room := x } 104 else keep { s with room := x } k := by
  have e1 : right { (lineS s (k ++ [13] ++ [10])) with room := x } = true := by unfold right lineS; rw [h0]; exact (suffix_yes k).1
  have e2 : said { (lineS s (k ++ [13] ++ [10])) with room := x } = k := by unfold said lineS; rw [h0]; exact (suffix_yes k).2
  have e3 : bare { (lineS s (k ++ [13] ++ [10])) with room := x } = { s with room := x } := by unfold bare lineS; cases s; simp at h0; subst h0; rfl
  unfold endTrailer
  rw [if_neg (by rw [e1]; decide), e2, e3]
  rfl
def Sees (x : Nat × DS) (n : Nat) (e : Int) (d : Bool) (b : List UInt8) (t : List Fl) : Prop := x.1 = n ∧ x.2.err = e ∧ x.2.done = d ∧ x.2.body = b ∧ x.2.tr = t
theorem Sees.on {s0 s1 : DS} {L M : List UInt8} {p n : Nat} {e : Int} {d : Bool} {b : List UInt8} {t : List Fl} (h : eat s0 L = (p + (eat s1 M).1, (eat s1 M).2)) (hs : Sees (eat s1 M) n e d b t) : Sees (eat s0 L) (p + n) e d b t := by
  rw [h]
  exact ⟨by rw [hs.1], hs.2⟩
theorem eat_on {s0 s1 s2 : DS} {L M N : List UInt8} {p q : Nat} (h : eat s0 L = (p + (eat s1 M).1, (eat s1 M).2)) (hs : eat s1 M = (q + (eat s2 N).1, (eat s2 N).2)) : eat s0 L = (p + q + (eat s2 N).1, (eat s2 N).2) := by
  rw [h, hs, Nat.add_assoc]
theorem Sees.over {s : DS} (h : s.mode = 5) (r : List UInt8) : Sees (eat s r) 0 s.err s.done s.body s.tr := by
  rw [eat_over h]
  exact ⟨rfl, rfl, rfl, rfl, rfl⟩
theorem noLf_of {M : List UInt8} {k : Nat} (h : ∀ i, i < k → i < M.length → M.getD i 0 ≠ 10) : noLf (M.take k) := fun c hc => by
  obtain ⟨i, hi, rfl⟩ := List.mem_iff_getElem.1 hc
  rw [List.length_take] at hi
  have := h i (by omega) (by omega)
  rw [List.getD_eq_getElem?_getD, List.getElem?_eq_getElem (by omega)] at this
  simpa using this
theorem cut_lf {M : List UInt8} {i : Nat} (hi : i < M.length) (h10 : M.getD i 0 = 10) : M = M.take i ++ 10 :: M.drop (i + 1) := by
  rw [← h10]
  have e := List.drop_eq_getElem_cons hi
  rw [List.getD_eq_getElem?_getD, List.getElem?_eq_getElem hi]
  show M = M.take i ++ (M[i] :: M.drop (i + 1))
  rw [← e, List.take_append_drop]
structure Fresh (s : DS) : Prop where
  line : s.line = []
  done : s.done = false
  err : s.err = 0
theorem open0_long {s : DS} {M : List UInt8} (hm : s.mode = 0) (hf : Fresh s) (hn : ∀ i, i < 256 → i < M.length → M.getD i 0 ≠ 10) (hl : 255 < M.length) : Sees (eat s M) 256 100 false s.body s.tr := by
  have h := eat_long0 (M.take 256) (M.drop 256) s hm (noLf_of hn) hf.line (by rw [List.length_take]; omega)
  rw [List.take_append_drop] at h
  rw [h]
  exact ⟨rfl, rfl, rfl, rfl, rfl⟩
theorem open0_short {s : DS} {M : List UInt8} (hm : s.mode = 0) (hf : Fresh s) (hn : ∀ i, i < 256 → i < M.length → M.getD i 0 ≠ 10) (hl : ¬ 255 < M.length) : Sees (eat s M) M.length 0 false s.body s.tr := by
  have h1 : noLf M := by
    have := noLf_of (M := M) (k := M.length) (fun i h1 h2 => hn i (by omega) h2)
    rwa [List.take_length] at this
  rw [eat_open0 M s hm h1 hf.line (by omega)]
  exact ⟨rfl, hf.err, hf.done, rfl, rfl⟩
theorem line0_bad {s : DS} {l r : List UInt8} (hm : s.mode = 0) (hf : Fresh s) (hn : noLf l) (hl : l.length < 256) (h : ∀ k, l ≠ k ++ [13]) : Sees (eat s (l ++ 10 :: r)) (l.length + 1) 100 false s.body s.tr := by
  rw [eat_line0 l r s hm hn hf.line hl, endSize_bad hf.line h, eat_over (by rfl)]
  exact ⟨rfl, rfl, rfl, rfl, rfl⟩
theorem line0_err {s : DS} {l k r : List UInt8} (hm : s.mode = 0) (hf : Fresh s) (hn : noLf l) (hl : l.length < 256) (h : l = k ++ [13]) (he : (sizeR k).2.2 ≠ 0) : Sees (eat s (l ++ 10 :: r)) (l.length + 1) (sizeR k).2.2 false s.body s.tr := by
  rw [eat_line0 l r s hm hn hf.line hl, h, endSize_yes hf.line, if_pos he, eat_over (by rfl)]
  refine ⟨rfl, rfl, ?_, rfl, rfl⟩
  simpa [fin] using he
theorem line0_much {s : DS} {l k r : List UInt8} (hm : s.mode = 0) (hf : Fresh s) (hn : noLf l) (hl : l.length < 256) (h : l = k ++ [13]) (he : (sizeR k).2.2 = 0) (hb : s.most < (sizeR k).1) : Sees (eat s (l ++ 10 :: r)) (l.length + 1) 102 false s.body s.tr := by
  rw [eat_line0 l r s hm hn hf.line hl, h, endSize_yes hf.line, if_neg (by rw [he]; decide), if_pos hb, eat_over (by rfl)]
  exact ⟨rfl, rfl, rfl, rfl, rfl⟩
theorem line0_last {s : DS} {l k r : List UInt8} (hm : s.mode = 0) (hf : Fresh s) (hn : noLf l) (hl : l.length < 256) (h : l = k ++ [13]) (he : (sizeR k).2.2 = 0) (hb : ¬ s.most < (sizeR k).1) (hz : (sizeR k).1 = 0) :
    eat s (l ++ 10 :: r) = (l.length + 1 + (eat { s with mode := 4 } r).1, (eat { s with mode := 4 } r).2) := by
  rw [eat_line0 l r s hm hn hf.line hl, h, endSize_yes hf.line, if_neg (by rw [he]; decide), if_neg hb, if_pos hz]
theorem line0_chunk {s : DS} {l k r : List UInt8} (hm : s.mode = 0) (hf : Fresh s) (hn : noLf l) (hl : l.length < 256) (h : l = k ++ [13]) (he : (sizeR k).2.2 = 0) (hb : ¬ s.most < (sizeR k).1) (hz : (sizeR k).1 ≠ 0) :
    eat s (l ++ 10 :: r) = (l.length + 1 + (eat { s with most := s.most - (sizeR k).1, left := (sizeR k).1, mode := 1 } r).1, (eat { s with most := s.most - (sizeR k).1, left := (sizeR k).1, mode := 1 } r).2) := by
  rw [eat_line0 l r s hm hn hf.line hl, h, endSize_yes hf.line, if_neg (by rw [he]; decide), if_neg hb, if_neg hz]
theorem eat_chunk' : ∀ (t r : List UInt8) (s : DS), s.mode = 1 → t ≠ [] → (t.length : Int) ≤ s.left → eat s (t ++ r) = (t.length + (eat (inChunk s t) r).1, (eat (inChunk s t) r).2)
  | [], r, s, hm, h0, hl => absurd rfl h0
  | [c], r, s, hm, h0, hl => by
    have hb : bstep s c = inChunk s [c] := by unfold bstep; rw [hm]; rfl
    rw [List.cons_append, List.nil_append, eat_cons (by omega), hb]
    simp only [List.length_cons, List.length_nil, Prod.mk.injEq, and_true]
    omega
  | c :: d :: t, r, s, hm, h0, hl => by
    have hb : bstep s c = inChunk s [c] := by unfold bstep; rw [hm]; rfl
    simp only [List.length_cons] at hl
    have hm1 : (inChunk s [c]).mode = 1 := by
      unfold inChunk
      show (if s.left - (([c] : List UInt8).length : Int) = 0 then 2 else 1) = 1
      rw [if_neg (by simp; omega)]
    have e : inChunk (inChunk s [c]) (d :: t) = inChunk s (c :: d :: t) := by
      unfold inChunk
      simp only [List.length_cons, List.length_nil, List.append_assoc, List.cons_append, List.nil_append]
      congr 1
      · congr 1
        rw [eq_iff_iff]
        omega
      · omega
    rw [List.cons_append, eat_cons (by omega), hb, eat_chunk' (d :: t) r (inChunk s [c]) hm1 (by simp) (by simp [inChunk]; omega), e]
    simp only [List.length_cons, Prod.mk.injEq, and_true]
    omega
def stK (most room fields : Int) (b : List UInt8) (k : Nat) : DS := { (stS most room fields b) with mode := if k = 0 then 2 else if k = 1 then 3 else 0 }
theorem stK_two (most room fields : Int) (b : List UInt8) : stK most room fields b 2 = stS most room fields b := by simp [stK, stS]
theorem chunk_all {most room fields : Int} {b t r : List UInt8} {n : Int} (hn : (t.length : Int) = n) (h0 : t ≠ []) :
    eat { (stS most room fields b) with most := (stS most room fields b).most - n, left := n, mode := 1 } (t ++ r) = (t.length + (eat (stK most room fields (b ++ t) 0) r).1, (eat (stK most room fields (b ++ t) 0) r).2) := by
  rw [eat_chunk' t r _ rfl h0 (by show (t.length : Int) ≤ n; omega)]
  have e : inChunk { (stS most room fields b) with most := (stS most room fields b).most - n, left := n, mode := 1 } t = stK most room fields (b ++ t) 0 := inChunk_all hn
  rw [e]
theorem chunk_part {most room fields : Int} {b t : List UInt8} {n : Int} (hn : (t.length : Int) < n) :
    Sees (eat { (stS most room fields b) with most := (stS most room fields b).most - n, left := n, mode := 1 } t) t.length 0 false (b ++ t) [] := by
  by_cases h0 : t = []
  · subst h0
    rw [eat_nil]
    exact ⟨rfl, rfl, rfl, by simp [stS], rfl⟩
  · have h := eat_chunk' t [] { (stS most room fields b) with most := (stS most room fields b).most - n, left := n, mode := 1 } rfl h0 (by show (t.length : Int) ≤ n; omega)
    rw [List.append_nil, eat_nil] at h
    rw [h]
    exact ⟨rfl, rfl, rfl, rfl, rfl⟩
def retAt (k : Nat) : UInt8 := if k = 0 then 13 else 10
theorem stK_nil (most room fields : Int) (b : List UInt8) (k : Nat) : Sees (eat (stK most room fields b k) []) 0 0 false b [] := by
  rw [eat_nil]
  exact ⟨rfl, rfl, rfl, rfl, rfl⟩
theorem stK_bad (most room fields : Int) (b : List UInt8) (k : Nat) (hk : k < 2) (c : UInt8) (hc : c ≠ retAt k) (r : List UInt8) : Sees (eat (stK most room fields b k) (c :: r)) 1 100 false b [] := by
  match k, hk, hc with
  | 0, _, hc =>
    have hb : bstep (stK most room fields b 0) c = fin { (stK most room fields b 0) with mode := 3 } 100 := by
      show behindChunk _ c = _
      unfold behindChunk
      rw [if_neg (show ¬ c = 13 from hc)]
    rw [eat_cons (by simp [stK]), hb, eat_over (by rfl)]
    exact ⟨rfl, rfl, rfl, rfl, rfl⟩
  | 1, _, hc =>
    have hb : bstep (stK most room fields b 1) c = fin { (stK most room fields b 1) with mode := 0 } 100 := by
      show behindReturn _ c = _
      unfold behindReturn
      rw [if_neg (show ¬ c = 10 from hc)]
    rw [eat_cons (by simp [stK]), hb, eat_over (by rfl)]
    exact ⟨rfl, rfl, rfl, rfl, rfl⟩
theorem stK_on (most room fields : Int) (b : List UInt8) (k : Nat) (hk : k < 2) (r : List UInt8) : eat (stK most room fields b k) (retAt k :: r) = (1 + (eat (stK most room fields b (k + 1)) r).1, (eat (stK most room fields b (k + 1)) r).2) := by
  match k, hk with
  | 0, _ =>
    have hb : bstep (stK most room fields b 0) (retAt 0) = stK most room fields b 1 := by
      show behindChunk _ _ = _
      unfold behindChunk
      rw [if_pos (show retAt 0 = 13 from rfl)]
      rfl
    rw [eat_cons (by simp [stK]), hb, Nat.add_comm]
  | 1, _ =>
    have hb : bstep (stK most room fields b 1) (retAt 1) = stK most room fields b 2 := by
      show behindReturn _ _ = _
      unfold behindReturn
      rw [if_pos (show retAt 1 = 10 from rfl)]
      rfl
    rw [eat_cons (by simp [stK]), hb, Nat.add_comm]
theorem open4_long {m rm f : Int} {b M : List UInt8} {t : List Fl} {u k : Nat} (hk : (k : Int) = rm - u) (hn : ∀ i, i < k → i < M.length → M.getD i 0 ≠ 10) (hl : k < M.length) : Sees (eat (stT m rm f b t u) M) (k + 1) 104 false b t := by
  have h := eat_put4 (M.take k) (M.drop k) (stT m rm f b t u) rfl (noLf_of hn) (by rw [List.length_take]; show _ ≤ rm - (u : Int); omega)
  rw [List.take_append_drop] at h
  rw [h, List.drop_eq_getElem_cons hl, eat_full4 _ _ _ (by rfl) (by show rm - (u : Int) - ((M.take k).length : Int) = 0; rw [List.length_take]; omega)]
  refine ⟨?_, rfl, rfl, rfl, rfl⟩
  show (M.take k).length + 1 = k + 1
  rw [List.length_take]
  omega
theorem open4_short {m rm f : Int} {b M : List UInt8} {t : List Fl} {u : Nat} (hn : ∀ i : Nat, (i : Int) < rm - u → i < M.length → M.getD i 0 ≠ 10) (hl : (M.length : Int) ≤ rm - u) : Sees (eat (stT m rm f b t u) M) M.length 0 false b t := by
  have h1 : noLf M := by
    have := noLf_of (M := M) (k := M.length) (fun i h1 h2 => hn i (by omega) h2)
    rwa [List.take_length] at this
  have h := eat_put4 M [] (stT m rm f b t u) rfl h1 hl
  rw [List.append_nil, eat_nil] at h
  rw [h]
  exact ⟨rfl, rfl, rfl, rfl, rfl⟩
theorem line4_bad {m rm f : Int} {b l r : List UInt8} {t : List Fl} {u : Nat} (hn : noLf l) (hl : (l.length : Int) < rm - u) (h : ∀ k, l ≠ k ++ [13]) : Sees (eat (stT m rm f b t u) (l ++ 10 :: r)) (l.length + 1) 101 false b t := by
  rw [eat_line4 l r (stT m rm f b t u) rfl hn hl, endTrailer_bad rfl h, eat_over (by rfl)]
  exact ⟨rfl, rfl, rfl, rfl, rfl⟩
theorem line4_end {m rm f : Int} {b l r : List UInt8} {t : List Fl} {u : Nat} (hn : noLf l) (hl : (l.length : Int) < rm - u) (h : l = [] ++ [13]) : Sees (eat (stT m rm f b t u) (l ++ 10 :: r)) (l.length + 1) 0 true b t := by
  rw [eat_line4 l r (stT m rm f b t u) rfl hn hl, h, endTrailer_yes rfl, if_pos rfl, eat_over (by rfl)]
  exact ⟨rfl, rfl, rfl, rfl, rfl⟩
theorem line4_many {m rm f : Int} {b l k r : List UInt8} {t : List Fl} {u : Nat} (hn : noLf l) (hl : (l.length : Int) < rm - u) (h : l = k ++ [13]) (h0 : k ≠ []) (hf : f - (t.length : Int) = 0) : Sees (eat (stT m rm f b t u) (l ++ 10 :: r)) (l.length + 1) 104 false b t := by
  rw [eat_line4 l r (stT m rm f b t u) rfl hn hl, h, endTrailer_yes rfl, if_neg h0, if_pos (show (stT m rm f b t u).fields = 0 from hf), eat_over (by rfl)]
  exact ⟨rfl, rfl, rfl, rfl, rfl⟩
theorem line4_not {m rm f : Int} {b l k r : List UInt8} {t : List Fl} {u : Nat} (hn : noLf l) (hl : (l.length : Int) < rm - u) (h : l = k ++ [13]) (h0 : k ≠ []) (hf : f - (t.length : Int) ≠ 0) (hp : (parseL k).2.2 ≠ 0 ∨ trails (parseL k).1.1 = false) : Sees (eat (stT m rm f b t u) (l ++ 10 :: r)) (l.length + 1) 101 false b t := by
  rw [eat_line4 l r (stT m rm f b t u) rfl hn hl, h, endTrailer_yes rfl, if_neg h0, if_neg (show ¬ (stT m rm f b t u).fields = 0 from hf)]
  unfold keep
  rw [if_pos hp, eat_over (by rfl)]
  exact ⟨rfl, rfl, rfl, rfl, rfl⟩
theorem line4_on {m rm f : Int} {b l k r : List UInt8} {t : List Fl} {u : Nat} (hn : noLf l) (hl : (l.length : Int) < rm - u) (h : l = k ++ [13]) (h0 : k ≠ []) (hf : f - (t.length : Int) ≠ 0) (hp : ¬ ((parseL k).2.2 ≠ 0 ∨ trails (parseL k).1.1 = false)) :
    eat (stT m rm f b t u) (l ++ 10 :: r) = (l.length + 1 + (eat (stT m rm f b (t ++ [(parseL k).1]) (u + (l.length + 1))) r).1, (eat (stT m rm f b (t ++ [(parseL k).1]) (u + (l.length + 1))) r).2) := by
  rw [eat_line4 l r (stT m rm f b t u) rfl hn hl, h, endTrailer_yes rfl, if_neg h0, if_neg (show ¬ (stT m rm f b t u).fields = 0 from hf)]
  unfold keep
  rw [if_neg hp]
  have e : ({ ({ (stT m rm f b t u) with room := (stT m rm f b t u).room - ((k ++ [13]).length : Int) - 1 } : DS) with fields := (stT m rm f b t u).fields - 1, tr := t ++ [(parseL k).1] } : DS) = stT m rm f b (t ++ [(parseL k).1]) (u + ((k ++ [13]).length + 1)) := by
    unfold stT
    simp only [List.length_append, List.length_cons, List.length_nil]
    congr 1 <;> omega
  have e2 : ({ ({ (stT m rm f b t u) with room := (stT m rm f b t u).room - ((k ++ [13]).length : Int) - 1 } : DS) with fields := ({ (stT m rm f b t u) with room := (stT m rm f b t u).room - ((k ++ [13]).length : Int) - 1 } : DS).fields - 1, tr := ({ (stT m rm f b t u) with room := (stT m rm f b t u).room - ((k ++ [13]).length : Int) - 1 } : DS).tr ++ [(parseL k).1] } : DS) = stT m rm f b (t ++ [(parseL k).1]) (u + ((k ++ [13]).length + 1)) := e
  rw [e2]
end Ck
end Go.Proofs.YtdcfhnbagldilaaGreatDoor
set_option linter.unusedVariables false
set_option linter.unusedSimpArgs false
set_option maxRecDepth 100000
namespace Go.Proofs.YtdcfhnbagldilaaGreatDoor
open Go.RowKit Go.Shelf
namespace Ck
open Oc Tg _root_.Go.Proofs.YtdcfhnbagldilaaGreatDoor.Fd
def encL (body : List UInt8) (l : List Int) (t : List Fl) : List UInt8 := cutC l body ++ lineC 0 ++ (trailG t ++ [13, 10])
end Ck
end Go.Proofs.YtdcfhnbagldilaaGreatDoor
set_option linter.unusedVariables false
set_option linter.unusedSimpArgs false
set_option maxRecDepth 100000
namespace Go.Proofs.YtdcfhnbagldilaaGreatDoor
open Go.RowKit Go.Shelf
namespace Ck
open Oc Tg _root_.Go.Proofs.YtdcfhnbagldilaaGreatDoor.Fd
def inL (L : List (List UInt8)) (x : List UInt8) : Bool := L.contains x
set_option maxRecDepth 100000 in
set_option maxHeartbeats 1000000 in
theorem rIn_any (v : Value) (L : List (List UInt8)) (x : List UInt8) (hl : L.length ≤ 1048576) (w : World) (h : RdS v L w) :
    Calls Tryz.prog 32 #[v, .string (str x)] w fun e w' => e = .returned (.bool (inL L x)) ∧ w' = w := by
  have HR : Hid (RdS v L w) := h
  obtain ⟨a, c, rfl, _⟩ := h
  generalize hX : str x = X
  have HX : Hid (X = str x) := hX.symm
  clear hX
  go_enter Tryz.func32, Tryz.ntmps32
  go_wp2
  go_loop [9] (fun i => ∃ k : Nat, k ≤ L.length ∧ i = .int .i64 k ∧ Hid (∀ j, j < k → L.getD j [] ≠ x)) (fun i => L.length - (intOf i).toNat)
  case atStart => exact ⟨0, Nat.zero_le _, rfl, (fun j hj => by omega : ∀ j, j < 0 → _)⟩
  case round =>
    obtain ⟨k, hk, rfl, hall⟩ := hrel
    by_cases hlt : k < L.length
    · obtain ⟨a', c', e', hcs⟩ := HR.out
      injection e' with e1 _ e2
      subst e1 e2
      rcases hcs with h | ⟨g, o, rfl, hlc, hcell⟩
      · rw [h] at hlt; simp at hlt
      have p0 := hcell k hlt
      clear hcell
      by_cases he : L.getD k [] = x
      · have HE : Hid (inL L x = true) := by
          show _ = _
          unfold inL
          rw [List.contains_iff_mem, ← he, List.getD_eq_getElem?_getD, List.getElem?_eq_getElem hlt]
          exact List.getElem_mem hlt
        rw [he, ← HX.out] at p0
        have hq : (X.toList == X.toList) = true := by simp
        go_wp2
        go_ret
        exact ⟨ret_bool HE.out.symm, rfl⟩
      · have HN : Hid (∀ j, j < k + 1 → L.getD j [] ≠ x) := fun j hj => by
          by_cases hjk : j = k
          · subst hjk; exact he
          · exact hall.out j (by omega)
        have hq : ((str (L.getD k [])).toList == X.toList) = false := by
          rw [eq_toList, decide_eq_false_iff_not, HX.out]
          exact fun e => he (str_inj e)
        generalize str (L.getD k []) = Y at *
        go_wp2
        go_round
        case rel => exact ⟨k + 1, by omega, by go_num, HN⟩
        case measure => simp [intOf]; omega
    · have HE : Hid (inL L x = false) := by
        show _ = _
        unfold inL
        cases hc : L.contains x with
        | false => rfl
        | true =>
          rw [List.contains_iff_mem] at hc
          obtain ⟨j, hj, e⟩ := List.mem_iff_getElem.1 hc
          exact absurd (by rw [List.getD_eq_getElem?_getD, List.getElem?_eq_getElem hj, ← e]; rfl) (hall.out j (by omega))
      go_wp2
      go_ret
      exact ⟨ret_bool HE.out.symm, rfl⟩
def never : Array Value := #[.string ⟨#[99, 111, 110, 110, 101, 99, 116, 105, 111, 110]⟩, .string ⟨#[99, 111, 110, 116, 101, 110, 116, 45, 101, 110, 99, 111, 100, 105, 110, 103]⟩, .string ⟨#[99, 111, 110, 116, 101, 110, 116, 45, 108, 101, 110, 103, 116, 104]⟩, .string ⟨#[99, 111, 110, 116, 101, 110, 116, 45, 114, 97, 110, 103, 101]⟩, .string ⟨#[99, 111, 110, 116, 101, 110, 116, 45, 116, 121, 112, 101]⟩, .string ⟨#[101, 120, 112, 101, 99, 116]⟩, .string ⟨#[104, 111, 115, 116]⟩, .string ⟨#[107, 101, 101, 112, 45, 97, 108, 105, 118, 101]⟩, .string ⟨#[116, 101]⟩, .string ⟨#[116, 114, 97, 105, 108, 101, 114]⟩, .string ⟨#[116, 114, 97, 110, 115, 102, 101, 114, 45, 101, 110, 99, 111, 100, 105, 110, 103]⟩, .string ⟨#[117, 112, 103, 114, 97, 100, 101]⟩]
theorem never_at : ∀ j, j < 12 → never[j]? = some (.string (str (heads.getD j []))) := fun j hj => match j, hj with
  | 0, _ => rfl
  | 1, _ => rfl
  | 2, _ => rfl
  | 3, _ => rfl
  | 4, _ => rfl
  | 5, _ => rfl
  | 6, _ => rfl
  | 7, _ => rfl
  | 8, _ => rfl
  | 9, _ => rfl
  | 10, _ => rfl
  | 11, _ => rfl
theorem never_rd (w : World) : RdS (.slice (some ⟨w.heap.size, 0, none⟩) 12 12) heads (w.alloc (.cells never 9)) := by
  refine ⟨_, 12, rfl, .inr ⟨w.heap.size, 0, rfl, by decide, fun j hj => ?_⟩⟩
  rw [cell_of_row _ w.heap.size _ _ _ _ (heap_alloc_new w _), Nat.zero_add]
  exact never_at j hj
set_option maxHeartbeats 1000000 in
theorem rMayTrail_any (l : List UInt8) (hl : l.length ≤ maxLen) (w : World) :
    Calls Tryz.prog 107 #[.string (str l)] w fun e w' => e = .returned (.bool (trails l)) ∧ Below w.heap.size w w' := by
  have HN : Hid (∀ w, Calls Tryz.prog 128 #[.string (str l)] w fun e w' => e = .returned (.bool (isName l)) ∧ w' = w) := fun w => by
    have h := rIsName_any (str l) (by rw [str_size]; exact hl) w
    rw [str_list] at h
    exact h
  have HL : Hid (∀ w, Calls Tryz.prog 71 #[.string (str l)] w fun e w' => e = .returned (.string (str (lower l))) ∧ Below w.heap.size w w') := fun w => by
    have h := Fd.rLower_any (str l) (by rw [str_size]; exact hl) w
    unfold lowS at h
    rw [str_list] at h
    exact h
  have HI : Hid (∀ w1, Below (w.alloc (.cells never 9)).heap.size (w.alloc (.cells never 9)) w1 → Calls Tryz.prog 32 #[.slice (some ⟨w.heap.size, 0, none⟩) 12 12, .string (str (lower l))] w1 fun e w' => e = .returned (.bool (heads.contains (lower l))) ∧ w' = w1) := fun w1 hb => rIn_any _ heads _ (by decide) w1 ((never_rd w).below hb)
  have HBA : Hid (Below w.heap.size w (w.alloc (.cells never 9))) := (Below.refl _ w).alloc (Nat.le_refl _) _
  unfold trails
  generalize isName l = b at *
  generalize heads.contains (lower l) = c at *
  generalize str (lower l) = M at *
  generalize str l = X at *
  clear hl
  unfold never at *
  cases b with
  | false =>
    go_enter Tryz.func107, Tryz.ntmps107
    go_wp2_with fail
    refine (HN.out _).mono ?_
    rintro e w1 ⟨rfl, hw⟩
    rw [hw]
    go_wp2
    go_ret
    exact ⟨ret_bool (by simp), HBA.out⟩
  | true =>
    go_enter Tryz.func107, Tryz.ntmps107
    go_wp2_with fail
    refine (HN.out _).mono ?_
    rintro e w1 ⟨rfl, hw⟩
    rw [hw]
    go_wp2_with fail
    refine (HL.out _).mono ?_
    rintro e w2 ⟨rfl, hb2⟩
    have HB2 : Hid (Below w.heap.size w w2) := bel_trans HBA.out hb2
    have HB2' := HI.out _ hb2
    clear hb2
    have HI2 : Hid (Calls Tryz.prog 32 #[.slice (some ⟨w.heap.size, 0, none⟩) 12 12, .string M] w2 fun e w' => e = .returned (.bool c) ∧ w' = w2) := HB2'
    clear HB2'
    go_wp2_with fail
    refine HI2.out.mono ?_
    rintro e w3 ⟨rfl, hw3⟩
    rw [hw3]
    go_wp2
    go_ret
    exact ⟨ret_bool (by simp), HB2.out⟩
end Ck
end Go.Proofs.YtdcfhnbagldilaaGreatDoor
set_option linter.unusedVariables false
set_option linter.unusedSimpArgs false
set_option maxRecDepth 100000
namespace Go.Proofs.YtdcfhnbagldilaaGreatDoor
open Go.RowKit Go.Shelf
namespace Ck
open Oc Tg _root_.Go.Proofs.YtdcfhnbagldilaaGreatDoor.Fd
end Ck
end Go.Proofs.YtdcfhnbagldilaaGreatDoor
set_option linter.unusedVariables false
set_option linter.unusedSimpArgs false
set_option maxRecDepth 100000
namespace Go.Proofs.YtdcfhnbagldilaaGreatDoor
open Go.RowKit Go.Shelf
namespace Ck
open Oc Tg _root_.Go.Proofs.YtdcfhnbagldilaaGreatDoor.Fd
def encI (l : List Int) : List Value := l.map fun x => Value.int .i64 x
def OwnI (B : Nat) (v : Value) (l : List Int) (w : World) : Prop := w.ownsRow B 3 1 v l.length (encI l)
theorem OwnI.rd {B : Nat} {v : Value} {l : List Int} {w : World} (h : OwnI B v l w) (hl : ∀ x ∈ l, -9223372036854775808 ≤ x ∧ x ≤ 9223372036854775807) : RdI w v l := by
  have hall := h
  rcases h.2 with ⟨hn, h0⟩ | ⟨g, cap, cur, rfl, hb, hg, hc, _⟩
  · have : l = [] := by
      have h1 := h0
      unfold encI at h1
      simpa using h1
    subst this
    exact ⟨none, 0, hn, by simp, hl, .inl rfl⟩
  · refine ⟨some ⟨g, 0, none⟩, cap, rfl, by omega, hl, .inr ⟨g, 0, rfl, fun j x hj => ?_⟩⟩
    have := World.ownsRow.cells hall (g := g) rfl j (.int .i64 x) (by unfold encI; rw [List.getElem?_map, hj]; rfl)
    rw [Nat.zero_add]
    have ea : Addr.add ⟨g, 0, none⟩ j = ⟨g, j, none⟩ := by unfold Addr.add; split <;> simp_all
    rw [ea] at this
    exact this
theorem OwnI.below {B : Nat} {v : Value} {l : List Int} {w w' : World} (h : OwnI B v l w) (b : Below w.heap.size w w') : OwnI B v l w' := (But.of_below b).owns h (fun _ _ e => by cases e)
end Ck
end Go.Proofs.YtdcfhnbagldilaaGreatDoor
