import Derived.Test.YtdcfhnbagldilaaGreatDoorMgZ
import Derived.Test.YtdcfhnbagldilaaGreatDoorMgA1
import Derived.Test.YtdcfhnbagldilaaGreatDoorMgN
import Derived.Test.YtdcfhnbagldilaaGreatDoorMgV
import Derived.Test.YtdcfhnbagldilaaGreatDoorMgT
set_option linter.unusedVariables false
set_option linter.unusedSimpArgs false
set_option maxRecDepth 100000
namespace Go.Proofs.YtdcfhnbagldilaaGreatDoor
open Go.RowKit Go.Shelf
namespace Ck
open Oc Tg _root_.Go.Proofs.YtdcfhnbagldilaaGreatDoor.Fd
def Deb (w : World) : Prop := w.cell? ⟨4, 15, none⟩ = some (.int .u8 4)
theorem Deb.below {w w' : World} (h : Deb w) (b : Below w.heap.size w w') : Deb w' := (b.cell (World.block_lt_of_cell? w _ h)).trans h
def sizeP (n : Int) (t : List Prm) : List UInt8 × Int :=
  if n < 0 ∨ 1099511627776 < n then ([], 1) else match prts t with
    | none => ([], 15)
    | some x => if 254 < (hexd n.toNat ++ x).length then ([], 100) else (hexd n.toNat ++ x, 0)
def lineC (n : Nat) : List UInt8 := hexd n ++ [13, 10]
def chunkC (t : List UInt8) : List UInt8 := if t = [] then [] else lineC t.length ++ t ++ [13, 10]
end Ck
end Go.Proofs.YtdcfhnbagldilaaGreatDoor
set_option linter.unusedVariables false
set_option linter.unusedSimpArgs false
set_option maxRecDepth 100000
namespace Go.Proofs.YtdcfhnbagldilaaGreatDoor
open Go.RowKit Go.Shelf
namespace Ck
open Oc Tg _root_.Go.Proofs.YtdcfhnbagldilaaGreatDoor.Fd
def okT (p : Fl) : Bool := isName p.1 && isValue p.2 && trails p.1
def trailG (t : List Fl) : List UInt8 := t.flatMap fun p => lineP p ++ [13, 10]
def trailP (t : List Fl) : List UInt8 × Int := if t.all okT then (trailG t ++ [13, 10], 0) else ([], 101)
theorem all_of (t : List Fl) (h : ∀ j, j < t.length → okT (Fd.nth t j) = true) : t.all okT = true := by
  rw [List.all_eq_true]
  intro p hp
  obtain ⟨j, hj, rfl⟩ := List.mem_iff_getElem.1 hp
  have := h j hj
  unfold Fd.nth at this
  rw [List.getD_eq_getElem?_getD, List.getElem?_eq_getElem hj] at this
  exact this
end Ck
end Go.Proofs.YtdcfhnbagldilaaGreatDoor
set_option linter.unusedVariables false
set_option linter.unusedSimpArgs false
set_option maxRecDepth 100000
namespace Go.Proofs.YtdcfhnbagldilaaGreatDoor
open Go.RowKit Go.Shelf
namespace Ck
open Oc Tg _root_.Go.Proofs.YtdcfhnbagldilaaGreatDoor.Fd
def nthI (l : List Int) (j : Nat) : Int := l.getD j 0
def lowI1 (l : List Int) : Int := match l.findIdx? (fun x => decide (x < 1)) with | some k => (k : Int) | none => -1
def cutC : List Int → List UInt8 → List UInt8
  | [], b => chunkC b
  | n :: ns, b => chunkC (b.take n.toNat) ++ cutC ns (b.drop n.toNat)
def encR (body : List UInt8) (sizes : List Int) (t : List Fl) : List UInt8 × Int :=
  if 0 ≤ lowI1 sizes then ([], 1) else if t.all okT then (cutC sizes body ++ lineC 0 ++ (trailG t ++ [13, 10]), 0) else ([], 101)
end Ck
end Go.Proofs.YtdcfhnbagldilaaGreatDoor
set_option linter.unusedVariables false
set_option linter.unusedSimpArgs false
set_option maxRecDepth 100000
namespace Go.Proofs.YtdcfhnbagldilaaGreatDoor
open Go.RowKit Go.Shelf
namespace Ck
open Oc Tg _root_.Go.Proofs.YtdcfhnbagldilaaGreatDoor.Fd
theorem dropG (l : List UInt8) (a j : Nat) : (l.drop a).getD j 0 = l.getD (a + j) 0 := by
  rw [List.getD_eq_getElem?_getD, List.getD_eq_getElem?_getD, List.getElem?_drop]
def noLf (l : List UInt8) : Prop := ∀ c ∈ l, c ≠ 10
def lineS (s : DS) (l : List UInt8) : DS := { s with line := s.line ++ l }
theorem eat_put0 : ∀ (l r : List UInt8) (s : DS), s.mode = 0 → noLf l → s.line.length + l.length < 256 → eat s (l ++ r) = (l.length + (eat (lineS s l) r).1, (eat (lineS s l) r).2)
  | [], r, s, hm, hn, hl => by simp [lineS]
  | c :: l, r, s, hm, hn, hl => by
    have hc : c ≠ 10 := hn c (by simp)
    simp only [List.length_cons] at hl
    have hb : bstep s c = put s c := by
      unfold bstep; rw [hm]; show inSize s c = _
      unfold inSize; rw [if_neg hc, if_neg (by omega)]
    rw [List.cons_append, eat_cons (by omega), hb, eat_put0 l r (put s c) hm (fun d hd => hn d (by simp [hd])) (by simp [put]; omega)]
    have e : lineS (put s c) l = lineS s (c :: l) := by simp [lineS, put]
    rw [e]
    simp only [List.length_cons, Prod.mk.injEq, and_true]
    omega
theorem eat_long0 (l r : List UInt8) (s : DS) (hm : s.mode = 0) (hn : noLf l) (h0 : s.line = []) (hl : l.length = 256) : eat s (l ++ r) = (256, fin s 100) := by
  obtain ⟨a, c, rfl⟩ : ∃ a c, l = a ++ [c] := by
    rcases List.eq_nil_or_concat l with h | ⟨a, c, h⟩
    · subst h; simp at hl
    · exact ⟨a, c, by simpa using h⟩
  simp only [List.length_append, List.length_cons, List.length_nil] at hl
  have hc : c ≠ 10 := hn c (by simp)
  rw [List.append_assoc, eat_put0 a _ s hm (fun d hd => hn d (by simp [hd])) (by rw [h0]; simp; omega)]
  have hm' : (lineS s a).mode = 0 := hm
  have hb : bstep (lineS s a) c = fin s 100 := by
    unfold bstep; rw [hm']; show inSize _ c = _
    unfold inSize; rw [if_neg hc, if_pos (by simp [lineS, h0]; omega)]
    rfl
  rw [List.cons_append, List.nil_append, eat_cons (by omega), hb, eat_over (by rfl)]
  simp only [Prod.mk.injEq, and_true]
  omega
theorem eat_open0 (l : List UInt8) (s : DS) (hm : s.mode = 0) (hn : noLf l) (h0 : s.line = []) (hl : l.length < 256) : eat s l = (l.length, lineS s l) := by
  have h := eat_put0 l [] s hm hn (by rw [h0]; simpa using hl)
  rw [List.append_nil, eat_nil] at h
  simpa using h
theorem eat_line0 (l r : List UInt8) (s : DS) (hm : s.mode = 0) (hn : noLf l) (h0 : s.line = []) (hl : l.length < 256) :
    eat s (l ++ 10 :: r) = (l.length + 1 + (eat (endSize (lineS s (l ++ [10]))) r).1, (eat (endSize (lineS s (l ++ [10]))) r).2) := by
  rw [eat_put0 l _ s hm hn (by rw [h0]; simpa using hl)]
  have hm' : (lineS s l).mode = 0 := hm
  have hb : bstep (lineS s l) 10 = endSize (lineS s (l ++ [10])) := by
    unfold bstep; rw [hm']; show inSize _ _ = _
    unfold inSize; rw [if_pos rfl]
    simp [lineS, put]
  rw [eat_cons (by omega), hb]
  simp only [Prod.mk.injEq, and_true]
  omega
theorem suffix_yes (k : List UInt8) : Lib.hasSuffix (k ++ [13] ++ [10]) crlf = true ∧ Lib.trimSuffix (k ++ [13] ++ [10]) crlf = k := by
  have h : Lib.hasSuffix (k ++ [13] ++ [10]) crlf = true := by
    unfold Lib.hasSuffix crlf
    rw [List.isSuffixOf_iff_suffix]
    exact ⟨k, by simp⟩
  refine ⟨h, ?_⟩
  unfold Lib.trimSuffix
  rw [if_pos h]
  simp [crlf]
theorem suffix_no (l : List UInt8) (h : ∀ k, l ≠ k ++ [13]) : Lib.hasSuffix (l ++ [10]) crlf = false := by
  unfold Lib.hasSuffix crlf
  rw [Bool.eq_false_iff]
  intro e
  rw [List.isSuffixOf_iff_suffix] at e
  obtain ⟨k, hk⟩ := e
  have : (k ++ [13]) ++ [10] = l ++ [10] := by rw [← hk]; simp
  exact h k (List.append_cancel_right this).symm
def stS (most room fields : Int) (b : List UInt8) : DS := ⟨0, false, 0, most - b.length, room, fields, 0, 0, [], b, []⟩
theorem stS_new (most room fields : Int) : stS most room fields [] = new most room fields := by simp [stS, new]
theorem endSize_bad {s : DS} {l : List UInt8} (h0 : s.line = []) (h : ∀ k, l ≠ k ++ [13]) : endSize (lineS s (l ++ [10])) = fin s 100 := by
  unfold endSize
  rw [if_pos (by unfold right lineS; rw [h0]; exact suffix_no l h)]
  rfl
theorem endSize_yes {s : DS} {k : List UInt8} (h0 : s.line = []) : endSize (lineS s (k ++ [13] ++ [10])) = if (sizeR k).2.2 ≠ 0 then fin s (sizeR k).2.2 else if s.most < (sizeR k).1 then fin s 102 else if (sizeR k).1 = 0 then { s with mode := 4 } else { s with most := s.most - (sizeR k).1, left := (sizeR k).1, mode := 1 } := by
  have e1 : right (lineS s (k ++ [13] ++ [10])) = true := by unfold right lineS; rw [h0]; exact (suffix_yes k).1
  have e2 : said (lineS s (k ++ [13] ++ [10])) = k := by unfold said lineS; rw [h0]; exact (suffix_yes k).2
  have e3 : bare (lineS s (k ++ [13] ++ [10])) = s := by unfold bare lineS; cases s; simp at h0; subst h0; rfl
  unfold endSize
  rw [if_neg (by rw [e1]; decide), e2, e3]
  rfl
theorem inChunk_all {most room fields : Int} {b t : List UInt8} {n : Int} (hn : (t.length : Int) = n) :
    inChunk { (stS most room fields b) with most := most - b.length - n, left := n, mode := 1 } t = { (stS most room fields (b ++ t)) with mode := 2 } := by
  unfold inChunk stS
  simp only [List.length_append]
  rw [if_pos (by omega)]
  congr 1 <;> omega
theorem eat_put4 : ∀ (l r : List UInt8) (s : DS), s.mode = 4 → noLf l → (l.length : Int) ≤ s.room → eat s (l ++ r) = (l.length + (eat { (lineS s l) with room := s.room - l.length } r).1, (eat { (lineS s l) with room := s.room - l.length } r).2)
  | [], r, s, hm, hn, hl => by simp [lineS]
  | c :: l, r, s, hm, hn, hl => by
    have hc : c ≠ 10 := hn c (by simp)
    simp only [List.length_cons] at hl
    have hb0 : bstep s c = inTrailers s c := by unfold bstep; rw [hm]; rfl
    have hb : bstep s c = put { s with room := s.room - 1 } c := by
      rw [hb0]
      unfold inTrailers; rw [if_neg (by omega), if_neg hc]
    rw [List.cons_append, eat_cons (by omega), hb, eat_put4 l r (put { s with room := s.room - 1 } c) hm (fun d hd => hn d (by simp [hd])) (by simp [put]; omega)]
    have e : ({ (lineS (put { s with room := s.room - 1 } c) l) with room := (put { s with room := s.room - 1 } c).room - l.length } : DS) = { (lineS s (c :: l)) with room := s.room - (c :: l).length } := by
      simp [lineS, put]; omega
    rw [e]
    simp only [List.length_cons, Prod.mk.injEq, and_true]
    omega
theorem eat_full4 (c : UInt8) (r : List UInt8) (s : DS) (hm : s.mode = 4) (h : s.room = 0) : eat s (c :: r) = (1, fin s 104) := by
  have hb : bstep s c = fin s 104 := by
    unfold bstep; rw [hm]; show inTrailers s c = _
    unfold inTrailers; rw [if_pos h]
  rw [eat_cons (by omega), hb, eat_over (by rfl)]
theorem eat_line4 (l r : List UInt8) (s : DS) (hm : s.mode = 4) (hn : noLf l) (hl : (l.length : Int) < s.room) :
    eat s (l ++ 10 :: r) = (l.length + 1 + (eat (endTrailer { (lineS s (l ++ [10])) with room := s.room - l.length - 1 }) r).1, (eat (endTrailer { (lineS s (l ++ [10])) with room := s.room - l.length - 1 }) r).2) := by
  rw [eat_put4 l _ s hm hn (by omega)]
  have hb : bstep { (lineS s l) with room := s.room - l.length } 10 = endTrailer { (lineS s (l ++ [10])) with room := s.room - l.length - 1 } := by
    unfold bstep
    show (match s.mode with | 0 => _ | 1 => _ | 2 => _ | 3 => _ | 4 => _ | _ => _) = _
    rw [hm]; show inTrailers _ _ = _
    unfold inTrailers
    rw [if_neg (by show ¬ (s.room - l.length = 0); omega), if_pos rfl]
    simp [lineS, put]
  rw [eat_cons (by show s.mode ≠ 5; omega), hb]
  simp only [Prod.mk.injEq, and_true]
  omega
def stT (most room fields : Int) (b : List UInt8) (t : List Fl) (u : Nat) : DS := ⟨4, false, 0, most - b.length, room - u, fields - t.length, 0, 0, [], b, t⟩
theorem stT_of (most room fields : Int) (b : List UInt8) : { (stS most room fields b) with mode := 4 } = stT most room fields b [] 0 := by simp [stT, stS]
theorem endTrailer_bad {s : DS} {l : List UInt8} {x : Int} (h0 : s.line = []) (h : ∀ k, l ≠ k ++ [13]) : endTrailer { (lineS s (l ++ [10])) with room := x } = fin { s with room := x } 101 := by
  unfold endTrailer
  rw [if_pos (by unfold right lineS; rw [h0]; exact suffix_no l h)]
  rfl
theorem endTrailer_yes {s : DS} {k : List UInt8} {x : Int} (h0 : s.line = []) : endTrailer { (lineS s (k ++ [13] ++ [10])) with room := x } = if k = [] then fin { s with room := x } 0 else if s.fields = 0 then fin { s with room := x } 104 else keep { s with room := x } k := by
  have e1 : right { (lineS s (k ++ [13] ++ [10])) with room := x } = true := by unfold right lineS; rw [h0]; exact (suffix_yes k).1
  have e2 : said { (lineS s (k ++ [13] ++ [10])) with room := x } = k := by unfold said lineS; rw [h0]; exact (suffix_yes k).2
  have e3 : bare { (lineS s (k ++ [13] ++ [10])) with room := x } = { s with room := x } := by unfold bare lineS; cases s; simp at h0; subst h0; rfl
  unfold endTrailer
  rw [if_neg (by rw [e1]; decide), e2, e3]
  rfl
def Sees (x : Nat × DS) (n : Nat) (e : Int) (d : Bool) (b : List UInt8) (t : List Fl) : Prop := x.1 = n ∧ x.2.err = e ∧ x.2.done = d ∧ x.2.body = b ∧ x.2.tr = t
theorem Sees.on {s0 s1 : DS} {L M : List UInt8} {p n : Nat} {e : Int} {d : Bool} {b : List UInt8} {t : List Fl} (h : eat s0 L = (p + (eat s1 M).1, (eat s1 M).2)) (hs : Sees (eat s1 M) n e d b t) : Sees (eat s0 L) (p + n) e d b t := by
  rw [h]
  exact ⟨by rw [hs.1], hs.2⟩
theorem eat_on {s0 s1 s2 : DS} {L M N : List UInt8} {p q : Nat} (h : eat s0 L = (p + (eat s1 M).1, (eat s1 M).2)) (hs : eat s1 M = (q + (eat s2 N).1, (eat s2 N).2)) : eat s0 L = (p + q + (eat s2 N).1, (eat s2 N).2) := by
  rw [h, hs, Nat.add_assoc]
theorem Sees.over {s : DS} (h : s.mode = 5) (r : List UInt8) : Sees (eat s r) 0 s.err s.done s.body s.tr := by
  rw [eat_over h]
  exact ⟨rfl, rfl, rfl, rfl, rfl⟩
theorem noLf_of {M : List UInt8} {k : Nat} (h : ∀ i, i < k → i < M.length → M.getD i 0 ≠ 10) : noLf (M.take k) := fun c hc => by
  obtain ⟨i, hi, rfl⟩ := List.mem_iff_getElem.1 hc
  rw [List.length_take] at hi
  have := h i (by omega) (by omega)
  rw [List.getD_eq_getElem?_getD, List.getElem?_eq_getElem (by omega)] at this
  simpa using this
theorem cut_lf {M : List UInt8} {i : Nat} (hi : i < M.length) (h10 : M.getD i 0 = 10) : M = M.take i ++ 10 :: M.drop (i + 1) := by
  rw [← h10]
  have e := List.drop_eq_getElem_cons hi
  rw [List.getD_eq_getElem?_getD, List.getElem?_eq_getElem hi]
  show M = M.take i ++ (M[i] :: M.drop (i + 1))
  rw [← e, List.take_append_drop]
structure Fresh (s : DS) : Prop where
  line : s.line = []
  done : s.done = false
  err : s.err = 0
theorem open0_long {s : DS} {M : List UInt8} (hm : s.mode = 0) (hf : Fresh s) (hn : ∀ i, i < 256 → i < M.length → M.getD i 0 ≠ 10) (hl : 255 < M.length) : Sees (eat s M) 256 100 false s.body s.tr := by
  have h := eat_long0 (M.take 256) (M.drop 256) s hm (noLf_of hn) hf.line (by rw [List.length_take]; omega)
  rw [List.take_append_drop] at h
  rw [h]
  exact ⟨rfl, rfl, rfl, rfl, rfl⟩
theorem open0_short {s : DS} {M : List UInt8} (hm : s.mode = 0) (hf : Fresh s) (hn : ∀ i, i < 256 → i < M.length → M.getD i 0 ≠ 10) (hl : ¬ 255 < M.length) : Sees (eat s M) M.length 0 false s.body s.tr := by
  have h1 : noLf M := by
    have := noLf_of (M := M) (k := M.length) (fun i h1 h2 => hn i (by omega) h2)
    rwa [List.take_length] at this
  rw [eat_open0 M s hm h1 hf.line (by omega)]
  exact ⟨rfl, hf.err, hf.done, rfl, rfl⟩
theorem line0_bad {s : DS} {l r : List UInt8} (hm : s.mode = 0) (hf : Fresh s) (hn : noLf l) (hl : l.length < 256) (h : ∀ k, l ≠ k ++ [13]) : Sees (eat s (l ++ 10 :: r)) (l.length + 1) 100 false s.body s.tr := by
  rw [eat_line0 l r s hm hn hf.line hl, endSize_bad hf.line h, eat_over (by rfl)]
  exact ⟨rfl, rfl, rfl, rfl, rfl⟩
theorem line0_err {s : DS} {l k r : List UInt8} (hm : s.mode = 0) (hf : Fresh s) (hn : noLf l) (hl : l.length < 256) (h : l = k ++ [13]) (he : (sizeR k).2.2 ≠ 0) : Sees (eat s (l ++ 10 :: r)) (l.length + 1) (sizeR k).2.2 false s.body s.tr := by
  rw [eat_line0 l r s hm hn hf.line hl, h, endSize_yes hf.line, if_pos he, eat_over (by rfl)]
  refine ⟨rfl, rfl, ?_, rfl, rfl⟩
  simpa [fin] using he
theorem line0_much {s : DS} {l k r : List UInt8} (hm : s.mode = 0) (hf : Fresh s) (hn : noLf l) (hl : l.length < 256) (h : l = k ++ [13]) (he : (sizeR k).2.2 = 0) (hb : s.most < (sizeR k).1) : Sees (eat s (l ++ 10 :: r)) (l.length + 1) 102 false s.body s.tr := by
  rw [eat_line0 l r s hm hn hf.line hl, h, endSize_yes hf.line, if_neg (by rw [he]; decide), if_pos hb, eat_over (by rfl)]
  exact ⟨rfl, rfl, rfl, rfl, rfl⟩
theorem line0_last {s : DS} {l k r : List UInt8} (hm : s.mode = 0) (hf : Fresh s) (hn : noLf l) (hl : l.length < 256) (h : l = k ++ [13]) (he : (sizeR k).2.2 = 0) (hb : ¬ s.most < (sizeR k).1) (hz : (sizeR k).1 = 0) :
    eat s (l ++ 10 :: r) = (l.length + 1 + (eat { s with mode := 4 } r).1, (eat { s with mode := 4 } r).2) := by
  rw [eat_line0 l r s hm hn hf.line hl, h, endSize_yes hf.line, if_neg (by rw [he]; decide), if_neg hb, if_pos hz]
theorem line0_chunk {s : DS} {l k r : List UInt8} (hm : s.mode = 0) (hf : Fresh s) (hn : noLf l) (hl : l.length < 256) (h : l = k ++ [13]) (he : (sizeR k).2.2 = 0) (hb : ¬ s.most < (sizeR k).1) (hz : (sizeR k).1 ≠ 0) :
    eat s (l ++ 10 :: r) = (l.length + 1 + (eat { s with most := s.most - (sizeR k).1, left := (sizeR k).1, mode := 1 } r).1, (eat { s with most := s.most - (sizeR k).1, left := (sizeR k).1, mode := 1 } r).2) := by
  rw [eat_line0 l r s hm hn hf.line hl, h, endSize_yes hf.line, if_neg (by rw [he]; decide), if_neg hb, if_neg hz]
theorem eat_chunk' : ∀ (t r : List UInt8) (s : DS), s.mode = 1 → t ≠ [] → (t.length : Int) ≤ s.left → eat s (t ++ r) = (t.length + (eat (inChunk s t) r).1, (eat (inChunk s t) r).2)
  | [], r, s, hm, h0, hl => absurd rfl h0
  | [c], r, s, hm, h0, hl => by
    have hb : bstep s c = inChunk s [c] := by unfold bstep; rw [hm]; rfl
    rw [List.cons_append, List.nil_append, eat_cons (by omega), hb]
    simp only [List.length_cons, List.length_nil, Prod.mk.injEq, and_true]
    omega
  | c :: d :: t, r, s, hm, h0, hl => by
    have hb : bstep s c = inChunk s [c] := by unfold bstep; rw [hm]; rfl
    simp only [List.length_cons] at hl
    have hm1 : (inChunk s [c]).mode = 1 := by
      unfold inChunk
      show (if s.left - (([c] : List UInt8).length : Int) = 0 then 2 else 1) = 1
      rw [if_neg (by simp; omega)]
    have e : inChunk (inChunk s [c]) (d :: t) = inChunk s (c :: d :: t) := by
      unfold inChunk
      simp only [List.length_cons, List.length_nil, List.append_assoc, List.cons_append, List.nil_append]
      congr 1
      · congr 1
        rw [eq_iff_iff]
        omega
      · omega
    rw [List.cons_append, eat_cons (by omega), hb, eat_chunk' (d :: t) r (inChunk s [c]) hm1 (by simp) (by simp [inChunk]; omega), e]
    simp only [List.length_cons, Prod.mk.injEq, and_true]
    omega
def stK (most room fields : Int) (b : List UInt8) (k : Nat) : DS := { (stS most room fields b) with mode := if k = 0 then 2 else if k = 1 then 3 else 0 }
theorem stK_two (most room fields : Int) (b : List UInt8) : stK most room fields b 2 = stS most room fields b := by simp [stK, stS]
theorem chunk_all {most room fields : Int} {b t r : List UInt8} {n : Int} (hn : (t.length : Int) = n) (h0 : t ≠ []) :
    eat { (stS most room fields b) with most := (stS most room fields b).most - n, left := n, mode := 1 } (t ++ r) = (t.length + (eat (stK most room fields (b ++ t) 0) r).1, (eat (stK most room fields (b ++ t) 0) r).2) := by
  rw [eat_chunk' t r _ rfl h0 (by show (t.length : Int) ≤ n; omega)]
  have e : inChunk { (stS most room fields b) with most := (stS most room fields b).most - n, left := n, mode := 1 } t = stK most room fields (b ++ t) 0 := inChunk_all hn
  rw [e]
theorem chunk_part {most room fields : Int} {b t : List UInt8} {n : Int} (hn : (t.length : Int) < n) :
    Sees (eat { (stS most room fields b) with most := (stS most room fields b).most - n, left := n, mode := 1 } t) t.length 0 false (b ++ t) [] := by
  by_cases h0 : t = []
  · subst h0
    rw [eat_nil]
    exact ⟨rfl, rfl, rfl, by simp [stS], rfl⟩
  · have h := eat_chunk' t [] { (stS most room fields b) with most := (stS most room fields b).most - n, left := n, mode := 1 } rfl h0 (by show (t.length : Int) ≤ n; omega)
    rw [List.append_nil, eat_nil] at h
    rw [h]
    exact ⟨rfl, rfl, rfl, rfl, rfl⟩
def retAt (k : Nat) : UInt8 := if k = 0 then 13 else 10
theorem stK_nil (most room fields : Int) (b : List UInt8) (k : Nat) : Sees (eat (stK most room fields b k) []) 0 0 false b [] := by
  rw [eat_nil]
  exact ⟨rfl, rfl, rfl, rfl, rfl⟩
theorem stK_bad (most room fields : Int) (b : List UInt8) (k : Nat) (hk : k < 2) (c : UInt8) (hc : c ≠ retAt k) (r : List UInt8) : Sees (eat (stK most room fields b k) (c :: r)) 1 100 false b [] := by
  match k, hk, hc with
  | 0, _, hc =>
    have hb : bstep (stK most room fields b 0) c = fin { (stK most room fields b 0) with mode := 3 } 100 := by
      show behindChunk _ c = _
      unfold behindChunk
      rw [if_neg (show ¬ c = 13 from hc)]
    rw [eat_cons (by simp [stK]), hb, eat_over (by rfl)]
    exact ⟨rfl, rfl, rfl, rfl, rfl⟩
  | 1, _, hc =>
    have hb : bstep (stK most room fields b 1) c = fin { (stK most room fields b 1) with mode := 0 } 100 := by
      show behindReturn _ c = _
      unfold behindReturn
      rw [if_neg (show ¬ c = 10 from hc)]
    rw [eat_cons (by simp [stK]), hb, eat_over (by rfl)]
    exact ⟨rfl, rfl, rfl, rfl, rfl⟩
theorem stK_on (most room fields : Int) (b : List UInt8) (k : Nat) (hk : k < 2) (r : List UInt8) : eat (stK most room fields b k) (retAt k :: r) = (1 + (eat (stK most room fields b (k + 1)) r).1, (eat (stK most room fields b (k + 1)) r).2) := by
  match k, hk with
  | 0, _ =>
    have hb : bstep (stK most room fields b 0) (retAt 0) = stK most room fields b 1 := by
      show behindChunk _ _ = _
      unfold behindChunk
      rw [if_pos (show retAt 0 = 13 from rfl)]
      rfl
    rw [eat_cons (by simp [stK]), hb, Nat.add_comm]
  | 1, _ =>
    have hb : bstep (stK most room fields b 1) (retAt 1) = stK most room fields b 2 := by
      show behindReturn _ _ = _
      unfold behindReturn
      rw [if_pos (show retAt 1 = 10 from rfl)]
      rfl
    rw [eat_cons (by simp [stK]), hb, Nat.add_comm]
theorem open4_long {m rm f : Int} {b M : List UInt8} {t : List Fl} {u k : Nat} (hk : (k : Int) = rm - u) (hn : ∀ i, i < k → i < M.length → M.getD i 0 ≠ 10) (hl : k < M.length) : Sees (eat (stT m rm f b t u) M) (k + 1) 104 false b t := by
  have h := eat_put4 (M.take k) (M.drop k) (stT m rm f b t u) rfl (noLf_of hn) (by rw [List.length_take]; show _ ≤ rm - (u : Int); omega)
  rw [List.take_append_drop] at h
  rw [h, List.drop_eq_getElem_cons hl, eat_full4 _ _ _ (by rfl) (by show rm - (u : Int) - ((M.take k).length : Int) = 0; rw [List.length_take]; omega)]
  refine ⟨?_, rfl, rfl, rfl, rfl⟩
  show (M.take k).length + 1 = k + 1
  rw [List.length_take]
  omega
theorem open4_short {m rm f : Int} {b M : List UInt8} {t : List Fl} {u : Nat} (hn : ∀ i : Nat, (i : Int) < rm - u → i < M.length → M.getD i 0 ≠ 10) (hl : (M.length : Int) ≤ rm - u) : Sees (eat (stT m rm f b t u) M) M.length 0 false b t := by
  have h1 : noLf M := by
    have := noLf_of (M := M) (k := M.length) (fun i h1 h2 => hn i (by omega) h2)
    rwa [List.take_length] at this
  have h := eat_put4 M [] (stT m rm f b t u) rfl h1 hl
  rw [List.append_nil, eat_nil] at h
  rw [h]
  exact ⟨rfl, rfl, rfl, rfl, rfl⟩
theorem line4_bad {m rm f : Int} {b l r : List UInt8} {t : List Fl} {u : Nat} (hn : noLf l) (hl : (l.length : Int) < rm - u) (h : ∀ k, l ≠ k ++ [13]) : Sees (eat (stT m rm f b t u) (l ++ 10 :: r)) (l.length + 1) 101 false b t := by
  rw [eat_line4 l r (stT m rm f b t u) rfl hn hl, endTrailer_bad rfl h, eat_over (by rfl)]
  exact ⟨rfl, rfl, rfl, rfl, rfl⟩
theorem line4_end {m rm f : Int} {b l r : List UInt8} {t : List Fl} {u : Nat} (hn : noLf l) (hl : (l.length : Int) < rm - u) (h : l = [] ++ [13]) : Sees (eat (stT m rm f b t u) (l ++ 10 :: r)) (l.length + 1) 0 true b t := by
  rw [eat_line4 l r (stT m rm f b t u) rfl hn hl, h, endTrailer_yes rfl, if_pos rfl, eat_over (by rfl)]
  exact ⟨rfl, rfl, rfl, rfl, rfl⟩
theorem line4_many {m rm f : Int} {b l k r : List UInt8} {t : List Fl} {u : Nat} (hn : noLf l) (hl : (l.length : Int) < rm - u) (h : l = k ++ [13]) (h0 : k ≠ []) (hf : f - (t.length : Int) = 0) : Sees (eat (stT m rm f b t u) (l ++ 10 :: r)) (l.length + 1) 104 false b t := by
  rw [eat_line4 l r (stT m rm f b t u) rfl hn hl, h, endTrailer_yes rfl, if_neg h0, if_pos (show (stT m rm f b t u).fields = 0 from hf), eat_over (by rfl)]
  exact ⟨rfl, rfl, rfl, rfl, rfl⟩
theorem line4_not {m rm f : Int} {b l k r : List UInt8} {t : List Fl} {u : Nat} (hn : noLf l) (hl : (l.length : Int) < rm - u) (h : l = k ++ [13]) (h0 : k ≠ []) (hf : f - (t.length : Int) ≠ 0) (hp : (parseL k).2.2 ≠ 0 ∨ trails (parseL k).1.1 = false) : Sees (eat (stT m rm f b t u) (l ++ 10 :: r)) (l.length + 1) 101 false b t := by
  rw [eat_line4 l r (stT m rm f b t u) rfl hn hl, h, endTrailer_yes rfl, if_neg h0, if_neg (show ¬ (stT m rm f b t u).fields = 0 from hf)]
  unfold keep
  rw [if_pos hp, eat_over (by rfl)]
  exact ⟨rfl, rfl, rfl, rfl, rfl⟩
theorem line4_on {m rm f : Int} {b l k r : List UInt8} {t : List Fl} {u : Nat} (hn : noLf l) (hl : (l.length : Int) < rm - u) (h : l = k ++ [13]) (h0 : k ≠ []) (hf : f - (t.length : Int) ≠ 0) (hp : ¬ ((parseL k).2.2 ≠ 0 ∨ trails (parseL k).1.1 = false)) :
    eat (stT m rm f b t u) (l ++ 10 :: r) = (l.length + 1 + (eat (stT m rm f b (t ++ [(parseL k).1]) (u + (l.length + 1))) r).1, (eat (stT m rm f b (t ++ [(parseL k).1]) (u + (l.length + 1))) r).2) := by
  rw [eat_line4 l r (stT m rm f b t u) rfl hn hl, h, endTrailer_yes rfl, if_neg h0, if_neg (show ¬ (stT m rm f b t u).fields = 0 from hf)]
  unfold keep
  rw [if_neg hp]
  have e : ({ ({ (stT m rm f b t u) with room := (stT m rm f b t u).room - ((k ++ [13]).length : Int) - 1 } : DS) with fields := (stT m rm f b t u).fields - 1, tr := t ++ [(parseL k).1] } : DS) = stT m rm f b (t ++ [(parseL k).1]) (u + ((k ++ [13]).length + 1)) := by
    unfold stT
    simp only [List.length_append, List.length_cons, List.length_nil]
    congr 1 <;> omega
  have e2 : ({ ({ (stT m rm f b t u) with room := (stT m rm f b t u).room - ((k ++ [13]).length : Int) - 1 } : DS) with fields := ({ (stT m rm f b t u) with room := (stT m rm f b t u).room - ((k ++ [13]).length : Int) - 1 } : DS).fields - 1, tr := ({ (stT m rm f b t u) with room := (stT m rm f b t u).room - ((k ++ [13]).length : Int) - 1 } : DS).tr ++ [(parseL k).1] } : DS) = stT m rm f b (t ++ [(parseL k).1]) (u + ((k ++ [13]).length + 1)) := e
  rw [e2]
end Ck
end Go.Proofs.YtdcfhnbagldilaaGreatDoor
