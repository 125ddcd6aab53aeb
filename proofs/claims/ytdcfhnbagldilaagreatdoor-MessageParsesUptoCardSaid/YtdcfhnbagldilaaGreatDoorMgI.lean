import Derived.Test.YtdcfhnbagldilaaGreatDoorMgE
import Derived.Test.YtdcfhnbagldilaaGreatDoorMgD
import Derived.Test.YtdcfhnbagldilaaGreatDoorMgB
import Derived.Test.YtdcfhnbagldilaaGreatDoorMgH
import Derived.Below
import Derived.Deep.Draws
import Derived.Laws.OwnMore
import Derived.Laws.Rows
import Derived.Lib.Strings
import Derived.Test.YtdcfhnbagldilaaGreatDoorMgF
import Derived.Laws.EntriesVeiled
import Derived.Deep.AppendLies
import Derived.Deep.RegionHeld3
set_option linter.unusedVariables false
set_option linter.unusedSimpArgs false
set_option maxRecDepth 100000
namespace Go.Proofs.YtdcfhnbagldilaaGreatDoor
open Go.RowKit Go.Shelf
namespace Ck
open Oc Tg _root_.Go.Proofs.YtdcfhnbagldilaaGreatDoor.Fd
structure But (bs : List Nat) (w w' : World) : Prop where
  os : w'.os = w.os
  tape : w'.tape = w.tape
  output : w'.output = w.output
  size : w.heap.size ≤ w'.heap.size
  block : ∀ k, k < w.heap.size → k ∉ bs → w'.heap[k]? = w.heap[k]?
theorem But.refl (bs : List Nat) (w : World) : But bs w w := ⟨rfl, rfl, rfl, Nat.le_refl _, fun _ _ _ => rfl⟩
theorem But.trans {bs : List Nat} {a b c : World} (h : But bs a b) (k : But bs b c) : But bs a c :=
  ⟨k.os.trans h.os, k.tape.trans h.tape, k.output.trans h.output, Nat.le_trans h.size k.size, fun i hi hn => (k.block i (Nat.lt_of_lt_of_le hi h.size) hn).trans (h.block i hi hn)⟩
theorem But.mono {bs cs : List Nat} {a b : World} (h : But bs a b) (hs : ∀ x, x ∈ bs → x ∈ cs) : But cs a b := ⟨h.os, h.tape, h.output, h.size, fun i hi hn => h.block i hi (fun e => hn (hs i e))⟩
theorem But.nil {cs : List Nat} {a b : World} (h : But [] a b) : But cs a b := h.mono (fun _ e => by cases e)
theorem But.of_below {w w' : World} (h : Below w.heap.size w w') : But [] w w' := ⟨h.os, h.tape, h.output, h.size, fun k hk _ => h.block k hk⟩
theorem But.below {bs : List Nat} {w w' : World} {B : Nat} (h : But bs w w') (hB : B ≤ w.heap.size) (hb : ∀ x, x ∈ bs → B ≤ x) : Below B w w' :=
  ⟨h.os, h.tape, h.output, h.size, fun k hk => h.block k (by omega) (fun e => by have := hb k e; omega)⟩
theorem But.alloc {bs : List Nat} {a w : World} (h : But bs a w) (o : Obj) : But bs a (w.alloc o) := h.trans ⟨rfl, rfl, rfl, by simp, fun k hk _ => Below.heap_alloc _ _ _ hk⟩
theorem But.setCell {bs : List Nat} {a w : World} (h : But bs a w) {p : Addr} (hp : p.block ∈ bs) (u : Value) : But bs a (w.setCell p u) :=
  h.trans ⟨rfl, rfl, rfl, by simp [World.setCell], fun k hk hn => Below.heap_setCell _ _ _ _ (fun e => hn (e ▸ hp))⟩
theorem But.setRow {bs : List Nat} {a w : World} (h : But bs a w) {g : Nat} (hp : g ∈ bs) (cs : Array Value) : But bs a (w.setRow g cs) :=
  h.trans ⟨rfl, rfl, rfl, by simp [World.setRow], fun k hk hn => setRow_other w g k cs (fun e => hn (e ▸ hp))⟩
theorem But.drew {bs : List Nat} {a w : World} (h : But bs a w) : But bs a w.drew := ⟨h.os, h.tape, h.output, h.size, h.block⟩
theorem But.drewN {bs : List Nat} {a w : World} (h : But bs a w) (q : Nat) : But bs a (w.drewN q) := by
  induction q with
  | zero => exact h
  | succ q ih => exact ih.drew
theorem But.grown {bs : List Nat} {a w w' : World} {row : Option Nat} (h : But bs a w) (hg : w.grownBy w' row) (hr : ∀ k, row = some k → k ∈ bs) : But bs a w' :=
  h.trans ⟨hg.os, hg.tape, hg.output, hg.size, fun k hk hn => hg.block k hk (fun e => hn (hr k e.symm))⟩
theorem But.cell {bs : List Nat} {w w' : World} (h : But bs w w') {p : Addr} {v : Value} (hc : w.cell? p = some v) (hn : p.block ∉ bs) : w'.cell? p = some v := by
  rw [World.cell?_of_block (w := w) (h.block p.block (World.block_lt_of_cell? w _ hc) hn)]
  exact hc
theorem But.heap {bs : List Nat} {w w' : World} (h : But bs w w') {b : Nat} {o : Obj} (hc : w.heap[b]? = some o) (hn : b ∉ bs) : w'.heap[b]? = some o := by
  rw [h.block b (Array.getElem?_eq_some_iff.1 hc).1 hn]
  exact hc
theorem But.owns {bs : List Nat} {w w' : World} (h : But bs w w') {B T S n : Nat} {v : Value} {xs : List Value} (ho : w.ownsRow B T S v n xs) (hn : ∀ g, v.ownBlock = some g → g ∉ bs) : w'.ownsRow B T S v n xs := by
  refine ⟨ho.1, ?_⟩
  rcases ho.2 with hz | ⟨g, cap, cur, rfl, hb, hg, rest⟩
  · exact .inl hz
  · exact .inr ⟨g, cap, cur, rfl, hb, h.heap hg (hn g rfl), rest⟩
theorem bel_drewN {B : Nat} {a w : World} (h : Below B a w) (q : Nat) : Below B a (w.drewN q) := by
  induction q with
  | zero => exact h
  | succ q ih => exact ih.drew
structure Goes (bs : List Nat) (w : World) (bs' : List Nat) (w' : World) : Prop where
  but : But bs w w'
  sub : ∀ x, x ∈ bs' → x ∈ bs ∨ w.heap.size ≤ x
theorem Goes.trans {bs cs ds : List Nat} {a b c : World} (h : Goes bs a cs b) (k : Goes cs b ds c) : Goes bs a ds c := by
  refine ⟨⟨k.but.os.trans h.but.os, k.but.tape.trans h.but.tape, k.but.output.trans h.but.output, Nat.le_trans h.but.size k.but.size, fun i hi hn => ?_⟩, fun x hx => ?_⟩
  · refine (k.but.block i (Nat.lt_of_lt_of_le hi h.but.size) (fun e => ?_)).trans (h.but.block i hi hn)
    rcases h.sub i e with e | e
    · exact hn e
    · omega
  · rcases k.sub x hx with e | e
    · exact h.sub x e
    · exact .inr (Nat.le_trans h.but.size e)
theorem Goes.below {bs : List Nat} {w w' : World} (h : Below w.heap.size w w') : Goes bs w bs w' := ⟨(But.of_below h).nil, fun _ h => .inl h⟩
theorem Goes.refl (bs : List Nat) (w : World) : Goes bs w bs w := ⟨But.refl _ _, fun _ h => .inl h⟩
theorem Goes.bel {bs cs : List Nat} {w0 w w' : World} (h : Goes bs w cs w') (hn : ∀ x, x ∈ bs → w0.heap.size ≤ x) (hb : Below w0.heap.size w0 w) : Below w0.heap.size w0 w' :=
  hb.trans (h.but.below hb.size hn)
theorem Goes.new {bs cs : List Nat} {w w' : World} (h : Goes bs w cs w') {B : Nat} (hB : B ≤ w.heap.size) (hn : ∀ x, x ∈ bs → B ≤ x) : ∀ x, x ∈ cs → B ≤ x := fun x hx => by
  rcases h.sub x hx with e | e
  · exact hn x e
  · omega
def hexSet : List UInt8 := [48, 49, 50, 51, 52, 53, 54, 55, 56, 57, 65, 66, 67, 68, 69, 70, 97, 98, 99, 100, 101, 102]
def hexB (c : UInt8) : Bool := hexSet.contains c
def sizeR (l : List UInt8) : Int × List Prm × Int :=
  if 254 < l.length then (0, [], 100)
  else if l.takeWhile hexB = [] ∨ (paramsR (l.dropWhile hexB)).2.2 ≠ 0 ∨ trim ((l.dropWhile hexB).drop (paramsR (l.dropWhile hexB)).2.1.toNat) ≠ [] then (0, [], 100)
  else if (numR 16 (l.takeWhile hexB) 1099511627776).2 ≠ 0 then (0, [], 102)
  else ((numR 16 (l.takeWhile hexB) 1099511627776).1, (paramsR (l.dropWhile hexB)).1, 0)
def heads : List (List UInt8) := [[99, 111, 110, 110, 101, 99, 116, 105, 111, 110], [99, 111, 110, 116, 101, 110, 116, 45, 101, 110, 99, 111, 100, 105, 110, 103], [99, 111, 110, 116, 101, 110, 116, 45, 108, 101, 110, 103, 116, 104], [99, 111, 110, 116, 101, 110, 116, 45, 114, 97, 110, 103, 101], [99, 111, 110, 116, 101, 110, 116, 45, 116, 121, 112, 101], [101, 120, 112, 101, 99, 116], [104, 111, 115, 116], [107, 101, 101, 112, 45, 97, 108, 105, 118, 101], [116, 101], [116, 114, 97, 105, 108, 101, 114], [116, 114, 97, 110, 115, 102, 101, 114, 45, 101, 110, 99, 111, 100, 105, 110, 103], [117, 112, 103, 114, 97, 100, 101]]
def trails (l : List UInt8) : Bool := isName l && !heads.contains (lower l)
structure DS where
  mode : Nat
  done : Bool
  err : Int
  most : Int
  room : Int
  fields : Int
  left : Int
  total : Int
  line : List UInt8
  body : List UInt8
  tr : List Fl
def fin (s : DS) (e : Int) : DS := { s with mode := 5, line := [], err := e, done := e == 0 }
def crlf : List UInt8 := [13, 10]
def said (s : DS) : List UInt8 := Lib.trimSuffix s.line crlf
def right (s : DS) : Bool := Lib.hasSuffix s.line crlf
def bare (s : DS) : DS := { s with line := [] }
def endSize (s : DS) : DS :=
  if right s = false then fin (bare s) 100
  else if (sizeR (said s)).2.2 ≠ 0 then fin (bare s) (sizeR (said s)).2.2
  else if s.most < (sizeR (said s)).1 then fin (bare s) 102
  else if (sizeR (said s)).1 = 0 then { bare s with mode := 4 }
  else { bare s with most := s.most - (sizeR (said s)).1, left := (sizeR (said s)).1, mode := 1 }
def put (s : DS) (c : UInt8) : DS := { s with line := s.line ++ [c] }
def inSize (s : DS) (c : UInt8) : DS := if c = 10 then endSize (put s c) else if s.line.length + 1 = 256 then fin (put s c) 100 else put s c
def inChunk (s : DS) (t : List UInt8) : DS := { s with body := s.body ++ t, left := s.left - t.length, mode := if s.left - t.length = 0 then 2 else 1 }
def behindChunk (s : DS) (c : UInt8) : DS := if c = 13 then { s with mode := 3 } else fin { s with mode := 3 } 100
def behindReturn (s : DS) (c : UInt8) : DS := if c = 10 then { s with mode := 0 } else fin { s with mode := 0 } 100
def keep (s : DS) (l : List UInt8) : DS :=
  if (parseL l).2.2 ≠ 0 ∨ trails (parseL l).1.1 = false then fin s 101 else { s with fields := s.fields - 1, tr := s.tr ++ [(parseL l).1] }
def endTrailer (s : DS) : DS :=
  if right s = false then fin (bare s) 101
  else if said s = [] then fin (bare s) 0
  else if s.fields = 0 then fin (bare s) 104
  else keep (bare s) (said s)
def inTrailers (s : DS) (c : UInt8) : DS :=
  if s.room = 0 then fin s 104
  else if c = 10 then endTrailer (put { s with room := s.room - 1 } c) else put { s with room := s.room - 1 } c
def bstep (s : DS) (c : UInt8) : DS :=
  match s.mode with
  | 0 => inSize s c
  | 1 => inChunk s [c]
  | 2 => behindChunk s c
  | 3 => behindReturn s c
  | 4 => inTrailers s c
  | _ => s
def eat : DS → List UInt8 → Nat × DS
  | s, [] => (0, s)
  | s, c :: t => if s.mode = 5 then (0, s) else ((eat (bstep s c) t).1 + 1, (eat (bstep s c) t).2)
def new (most room fields : Int) : DS := ⟨0, false, 0, most, room, fields, 0, 0, [], [], []⟩
structure Ok (s : DS) (k : Nat) : Prop where
  mode : s.mode ≤ 5
  most : 0 ≤ s.most ∧ s.most ≤ 9223372036854775807
  room : 0 ≤ s.room ∧ s.room ≤ 9223372036854775807
  fields : 0 ≤ s.fields ∧ s.fields ≤ 9223372036854775807
  left : 0 ≤ s.left ∧ s.left ≤ 1099511627776
  pos : s.mode = 1 → 0 < s.left
  total : 0 ≤ s.total ∧ s.total ≤ (k : Int)
  len : s.line.length + s.body.length + s.tr.length ≤ k
  size : s.mode ≤ 3 → s.line.length < 256
  bare : s.mode = 1 ∨ s.mode = 2 ∨ s.mode = 3 → s.line = []
  over : s.mode = 5 ↔ (s.done = true ∨ s.err ≠ 0)
theorem numR_bd (l : List UInt8) : 0 ≤ (numR 16 l 1099511627776).1 ∧ (numR 16 l 1099511627776).1 ≤ 1099511627776 := by
  have h0 : 0 ≤ numOf 16 l := by
    have := pre_nonneg 16 (by decide) (str l) (str l).size (Nat.le_refl _)
    rw [pre_all, str_list] at this
    exact this
  unfold numR
  split
  · exact ⟨by decide, by decide⟩
  · split
    · exact ⟨by decide, by decide⟩
    · rename_i h
      exact ⟨h0, by show numOf 16 l ≤ _; omega⟩
theorem sizeR_bd (l : List UInt8) : 0 ≤ (sizeR l).1 ∧ (sizeR l).1 ≤ 1099511627776 := by
  have := numR_bd (l.takeWhile hexB)
  unfold sizeR
  split
  · exact ⟨by decide, by decide⟩
  · split
    · exact ⟨by decide, by decide⟩
    · split
      · exact ⟨by decide, by decide⟩
      · exact this
end Ck
end Go.Proofs.YtdcfhnbagldilaaGreatDoor
set_option linter.unusedVariables false
set_option linter.unusedSimpArgs false
set_option maxRecDepth 100000
namespace Go.Proofs.YtdcfhnbagldilaaGreatDoor
open Go.RowKit Go.Shelf
namespace Ck
open Oc Tg _root_.Go.Proofs.YtdcfhnbagldilaaGreatDoor.Fd
def Sep (u v : Value) : Prop := ∀ g, u.ownBlock = some g → v.ownBlock ≠ some g
theorem Sep.nil (v : Value) : Sep (.slice none 0 0) v := fun g h => by cases h
theorem Sep.of {a : Option Addr} {n m c d : Nat} {v : Value} (h : Sep (.slice a n c) v) : Sep (.slice a m d) v := fun g hg => h g (by cases a with
  | none => cases hg
  | some a => exact hg)
def fnV : Nat → Value
  | 0 => .func (.func 104) #[] #[]
  | 1 => .func (.func 146) #[] #[]
  | 2 => .func (.func 167) #[] #[]
  | 3 => .func (.func 190) #[] #[]
  | 4 => .func (.func 145) #[] #[]
  | _ => .nilFunc
def cellsD (s : DS) (vl vb vt : Value) : Array Value := #[fnV s.mode, .bool s.done, .int .i64 s.err, .int .i64 s.most, .int .i64 s.room, .int .i64 s.fields, .int .i64 s.left, .int .i64 s.total, vl, vb, vt]
structure IsD (w : World) (D : Nat) (s : DS) (vl vb vt : Value) : Prop where
  str : w.heap[D]? = some (.cells (cellsD s vl vb vt) 146 (0, 0))
  line : Own 0 vl s.line w
  body : Own 0 vb s.body w
  tr : OwnF 47 0 vt s.tr w
  sep : Sep vl vb
def ft (D : Nat) (vl vb vt : Value) : List Nat := D :: (vl.ownBlock.toList ++ vb.ownBlock.toList ++ vt.ownBlock.toList)
def Dec (w : World) (D : Nat) (s : DS) (bs : List Nat) : Prop := ∃ vl vb vt, IsD w D s vl vb vt ∧ bs = ft D vl vb vt
theorem row11 {W : World} {b : Nat} {s : DS} {vl vb vt : Value} (h : W.heap[b]? = some (.cells (cellsD s vl vb vt) 146 (0, 0))) :
    W.cell? ⟨b, 0, none⟩ = some (fnV s.mode) ∧ W.cell? ⟨b, 1, none⟩ = some (.bool s.done) ∧ W.cell? ⟨b, 2, none⟩ = some (.int .i64 s.err) ∧ W.cell? ⟨b, 3, none⟩ = some (.int .i64 s.most) ∧ W.cell? ⟨b, 4, none⟩ = some (.int .i64 s.room) ∧ W.cell? ⟨b, 5, none⟩ = some (.int .i64 s.fields) ∧ W.cell? ⟨b, 6, none⟩ = some (.int .i64 s.left) ∧ W.cell? ⟨b, 7, none⟩ = some (.int .i64 s.total) ∧ W.cell? ⟨b, 8, none⟩ = some vl ∧ W.cell? ⟨b, 9, none⟩ = some vb ∧ W.cell? ⟨b, 10, none⟩ = some vt ∧ ∀ i, W.frozen? ⟨b, i, none⟩ = false := by
  refine ⟨?_, ?_, ?_, ?_, ?_, ?_, ?_, ?_, ?_, ?_, ?_, fun i => frozen_of_row W b i _ _ h⟩ <;> rw [cell_of_row W b _ _ _ _ h] <;> rfl
structure At (w0 w : World) (D : Nat) (cs : Array Value) : Prop where
  but : But [D] w0 w
  str : w.heap[D]? = some (.cells cs 146 (0, 0))
theorem At.set {w0 w : World} {D : Nat} {cs : Array Value} (h : At w0 w D cs) (i : Nat) (v : Value) : At w0 (w.setCell ⟨D, i, none⟩ v) D (cs.setIfInBounds i v) :=
  ⟨h.but.setCell (by simp) _, heap_setCell_same w D i cs _ v h.str⟩
theorem IsD.at {w : World} {D : Nat} {s : DS} {vl vb vt : Value} (h : IsD w D s vl vb vt) : At w w D (cellsD s vl vb vt) := ⟨But.refl _ _, h.str⟩
theorem At.below {w0 w w' : World} {D : Nat} {cs : Array Value} (h : At w0 w D cs) (hb : Below w.heap.size w w') : At w0 w' D cs :=
  ⟨h.but.trans (But.of_below hb).nil, (But.of_below hb).heap h.str (fun e => by cases e)⟩
theorem ne_row {w : World} {D g B T S n : Nat} {v : Value} {xs : List Value} {cs : Array Value} (hD : w.heap[D]? = some (.cells cs 146 (0, 0))) (h : w.ownsRow B T S v n xs) (hT : T ≠ 146) (hg : v.ownBlock = some g) : g ≠ D := by
  intro e
  subst e
  rcases h.2 with ⟨rfl, _⟩ | ⟨g', cap, cur, rfl, _, hg', _⟩
  · cases hg
  · have : g' = g := by simpa [Value.ownBlock] using hg
    subst this
    rw [hD] at hg'
    injection hg' with e
    injection e with _ e2 _
    exact hT e2.symm
theorem keep_row {w w' : World} {D B T S n : Nat} {v : Value} {xs : List Value} {cs : Array Value} (hD : w.heap[D]? = some (.cells cs 146 (0, 0))) (h : w.ownsRow B T S v n xs) (hT : T ≠ 146) (hb : But [D] w w') : w'.ownsRow B T S v n xs :=
  hb.owns h (fun g hg e => ne_row hD h hT hg (by simpa using e))
theorem IsD.build {w w' : World} {D : Nat} {s' : DS} {vl vb vt : Value} {cs : Array Value} (hD : w.heap[D]? = some (.cells cs 146 (0, 0))) {cs' : Array Value} (hA : At w w' D cs') (hc : cs' = cellsD s' vl vb vt)
    (hl : Own 0 vl s'.line w) (hb : Own 0 vb s'.body w) (ht : OwnF 47 0 vt s'.tr w) (hs : Sep vl vb) : IsD w' D s' vl vb vt := by
  subst hc
  exact ⟨hA.str, keep_row hD hl (by decide) hA.but, keep_row hD hb (by decide) hA.but, keep_row hD ht (by decide) hA.but, hs⟩
theorem IsD.lt {w : World} {D : Nat} {s : DS} {vl vb vt : Value} (h : IsD w D s vl vb vt) : ∀ x, x ∈ ft D vl vb vt → x < w.heap.size := by
  intro x hx
  unfold ft at hx
  simp at hx
  rcases hx with rfl | hx | hx | hx
  · exact (Array.getElem?_eq_some_iff.1 h.str).1
  · exact (World.ownsRow.lt h.line x hx).2
  · exact (World.ownsRow.lt h.body x hx).2
  · exact (World.ownsRow.lt h.tr x hx).2
theorem Dec.lt {w : World} {D : Nat} {s : DS} {bs : List Nat} (h : Dec w D s bs) : ∀ x, x ∈ bs → x < w.heap.size := by
  obtain ⟨vl, vb, vt, H, rfl⟩ := h
  exact H.lt
theorem Dec.mem {w : World} {D : Nat} {s : DS} {bs : List Nat} (h : Dec w D s bs) : D ∈ bs := by
  obtain ⟨vl, vb, vt, H, rfl⟩ := h
  simp [ft]
theorem IsD.but {w w' : World} {cs : List Nat} {D : Nat} {s : DS} {vl vb vt : Value} (h : IsD w D s vl vb vt) (hb : But cs w w') (hn : ∀ x, x ∈ ft D vl vb vt → x ∉ cs) : IsD w' D s vl vb vt :=
  ⟨hb.heap h.str (hn D (by simp [ft])), hb.owns h.line (fun g hg => hn g (by simp [ft, hg])), hb.owns h.body (fun g hg => hn g (by simp [ft, hg])), hb.owns h.tr (fun g hg => hn g (by simp [ft, hg])), h.sep⟩
theorem Dec.but {w w' : World} {cs : List Nat} {D : Nat} {s : DS} {bs : List Nat} (h : Dec w D s bs) (hb : But cs w w') (hn : ∀ x, x ∈ bs → x ∉ cs) : Dec w' D s bs := by
  obtain ⟨vl, vb, vt, H, rfl⟩ := h
  exact ⟨vl, vb, vt, H.but hb hn, rfl⟩
theorem Dec.below {w w' : World} {D : Nat} {s : DS} {bs : List Nat} (h : Dec w D s bs) (hb : Below w.heap.size w w') : Dec w' D s bs := h.but (But.of_below hb) (fun _ _ e => by cases e)
theorem IsD.below {w w' : World} {D : Nat} {s : DS} {vl vb vt : Value} (h : IsD w D s vl vb vt) (hb : Below w.heap.size w w') : IsD w' D s vl vb vt := h.but (But.of_below hb) (fun _ _ e => by cases e)
theorem goes_ft {w w' : World} {D : Nat} {vl vb vt vl' vb' vt' : Value} (hb : But (ft D vl vb vt) w w') (h1 : ∀ g, vl'.ownBlock = some g → vl.ownBlock = some g ∨ w.heap.size ≤ g) (h2 : ∀ g, vb'.ownBlock = some g → vb.ownBlock = some g ∨ w.heap.size ≤ g) (h3 : ∀ g, vt'.ownBlock = some g → vt.ownBlock = some g ∨ w.heap.size ≤ g) : Goes (ft D vl vb vt) w (ft D vl' vb' vt') w' := by
  refine ⟨hb, fun x hx => ?_⟩
  unfold ft at hx ⊢
  simp at hx ⊢
  rcases hx with rfl | hx | hx | hx
  · exact .inl (.inl rfl)
  · rcases h1 x hx with e | e
    · exact .inl (.inr (.inl e))
    · exact .inr e
  · rcases h2 x hx with e | e
    · exact .inl (.inr (.inr (.inl e)))
    · exact .inr e
  · rcases h3 x hx with e | e
    · exact .inl (.inr (.inr (.inr e)))
    · exact .inr e
theorem At.ftd {w w' : World} {D : Nat} {cs : Array Value} (h : At w w' D cs) (vl vb vt : Value) : But (ft D vl vb vt) w w' := h.but.mono (fun x hx => by simp at hx; subst hx; simp [ft])
set_option maxHeartbeats 1000000 in
theorem end_any {w : World} {D : Nat} {s : DS} {bs : List Nat} (H : Dec w D s bs) (e : Int) :
    Calls Tryz.prog 124 #[.pointer (some ⟨D, 0, none⟩), .int .i64 e] w fun ex w' => ex = .returned (.tuple #[]) ∧ ∃ bs', Dec w' D (fin s e) bs' ∧ Goes bs w bs' w' := by
  obtain ⟨vl, vb, vt, H, rfl⟩ := H
  have HH : Hid (IsD w D s vl vb vt) := H
  obtain ⟨c0, c1, c2, c3, c4, c5, c6, c7, c8, c9, c10, cf⟩ := row11 H.str
  clear H
  go_enter Tryz.func124, Tryz.ntmps124
  go_wp2
  go_end0
  have hA := (((HH.out.at.set 0 .nilFunc).set 8 (.slice none 0 0)).set 2 (.int .i64 e)).set 1 (.bool (e == 0))
  refine ⟨rfl, _, ⟨.slice none 0 0, vb, vt, IsD.build HH.out.str hA rfl (World.ownsRow_nil _ _ _ _) HH.out.body HH.out.tr (Sep.nil _), rfl⟩, goes_ft (hA.ftd _ _ _) (fun g h => by cases h) (fun g h => .inl h) (fun g h => .inl h)⟩
theorem own_zero {w : World} {a : Option Addr} {n c : Nat} {l : List UInt8} (h : Own 0 (.slice a n c) l w) : Own 0 (.slice a 0 c) [] w := by
  refine ⟨rfl, ?_⟩
  rcases h.2 with ⟨e, _⟩ | ⟨g, cap, cur, e, hb, hg, hn, hm, hs, _⟩
  · injection e with e1 e2 e3
    subst e1 e3
    exact .inl ⟨rfl, rfl⟩
  · injection e with e1 e2 e3
    subst e1 e3
    exact .inr ⟨g, c, cur, rfl, hb, hg, Nat.zero_le _, hm, hs, by simp [Lib.byteCells]⟩
theorem own_form {w : World} {B : Nat} {v : Value} {l : List UInt8} (h : Own B v l w) : ∃ a c, v = .slice a l.length c ∧ l.length ≤ c ∧ c ≤ maxLen ∧ ((a = none ∧ c = 0) ∨ ∃ g, a = some ⟨g, 0, none⟩) := by
  rcases h.2 with ⟨rfl, h0⟩ | ⟨g, cap, cur, rfl, _, _, hn, hm, _⟩
  · exact ⟨none, 0, by rw [h0], by omega, by simp [maxLen], .inl ⟨rfl, rfl⟩⟩
  · exact ⟨_, cap, rfl, hn, hm, .inr ⟨g, rfl⟩⟩
set_option maxHeartbeats 1000000 in
theorem takeLine_any {w : World} {D : Nat} {s : DS} {bs : List Nat} (H : Dec w D s bs) (hl : s.line.length ≤ 4000000000) (hne : s.line ≠ []) :
    Calls Tryz.prog 143 #[.pointer (some ⟨D, 0, none⟩)] w fun ex w' => ex = .returned (.tuple #[.string (str (said s)), .bool (right s)]) ∧ ∃ bs', Dec w' D (bare s) bs' ∧ Goes bs w bs' w' := by
  obtain ⟨vl, vb, vt, H, rfl⟩ := H
  have HH : Hid (IsD w D s vl vb vt) := H
  obtain ⟨a, c, rfl, hac, hcm, ha⟩ := own_form H.line
  obtain ⟨g, rfl⟩ : ∃ g, a = some ⟨g, 0, none⟩ := by
    rcases ha with ⟨_, h0⟩ | h
    · exact absurd (List.length_eq_zero_iff.1 (by omega)) hne
    · exact h
  obtain ⟨c0, c1, c2, c3, c4, c5, c6, c7, c8, c9, c10, cf⟩ := row11 H.str
  have hcv : (convert 53 9 (.slice (some ⟨g, 0, none⟩) s.line.length c)).run Tryz.prog w = .ok (.string (str s.line)) w := own_back H.line
  have HC : Hid (Calls Tryz.prog 161 #[.string (str s.line), .string ⟨#[13, 10]⟩] w fun e w' => e = .returned (.tuple #[.string (str (said s)), .bool (right s)]) ∧ w' = w) := by
    have h := Tryz.strings_CutSuffix (str s.line) ⟨#[13, 10]⟩ w (by rw [str_size]; omega)
    rw [str_list] at h
    exact h
  unfold maxLen at hcm
  generalize str s.line = L at *
  generalize hn : s.line.length = n at *
  clear H ha hne
  go_enter Tryz.func143, Tryz.ntmps143
  go_wp2_with fail
  refine HC.out.mono ?_
  rintro e w' ⟨rfl, hw⟩
  rw [hw]
  go_wp2
  go_ret2
  have hA := HH.out.at.set 8 (.slice (some ⟨g, 0, none⟩) 0 c)
  refine ⟨rfl, _, ⟨.slice (some ⟨g, 0, none⟩) 0 c, vb, vt, IsD.build HH.out.str hA rfl (own_zero HH.out.line) HH.out.body HH.out.tr HH.out.sep.of, rfl⟩, goes_ft (hA.ftd _ _ _) (fun g h => .inl h) (fun g h => .inl h) (fun g h => .inl h)⟩
end Ck
end Go.Proofs.YtdcfhnbagldilaaGreatDoor
set_option linter.unusedVariables false
set_option linter.unusedSimpArgs false
set_option maxRecDepth 100000
namespace Go.Proofs.YtdcfhnbagldilaaGreatDoor
open Go.RowKit Go.Shelf Go.Lib
namespace Ck
open Oc Tg _root_.Go.Proofs.YtdcfhnbagldilaaGreatDoor.Fd
theorem take_drop_hex : ∀ l : List UInt8, (l.takeWhile hexB).length + (l.dropWhile hexB).length = l.length
  | [] => rfl
  | x :: l => by
    have := take_drop_hex l
    rw [List.takeWhile_cons, List.dropWhile_cons]
    split
    · simp only [List.length_cons]; omega
    · simp
theorem take_of_hex : ∀ l : List UInt8, l.take (l.takeWhile hexB).length = l.takeWhile hexB
  | [] => rfl
  | x :: l => by
    have := take_of_hex l
    rw [List.takeWhile_cons]
    split
    · simp [this]
    · rfl
theorem prm_bd (l : List UInt8) (x : List Prm × Nat) : ∀ (n : Nat) (r : List UInt8) (x : List Prm × Nat), r.length ≤ n → prm r = some x → x.2 ≤ r.length := by
  intro n
  induction n with
  | zero =>
    intro r x hr h
    cases hp : pstep r with
    | none => rw [prm_none hp] at h; cases h
    | some y =>
      cases y with
      | none => rw [prm_end hp] at h; injection h with h; subst h; exact Nat.zero_le _
      | some y => have := pstep_le r y hp; omega
  | succ n ih =>
    intro r x hr h
    cases hp : pstep r with
    | none => rw [prm_none hp] at h; cases h
    | some y =>
      cases y with
      | none => rw [prm_end hp] at h; injection h with h; subst h; exact Nat.zero_le _
      | some y =>
        have hy := pstep_le r y hp
        rw [prm_on hp] at h
        cases hq : prm (r.drop y.1) with
        | none => rw [hq] at h; cases h
        | some z =>
          rw [hq] at h
          injection h with h
          have := ih _ _ (by simp; omega) hq
          subst h
          simp at this ⊢
          omega
theorem prm_bound {r : List UInt8} {x : List Prm × Nat} (h : prm r = some x) : x.2 ≤ r.length := prm_bd [] ([], 0) r.length r x (Nat.le_refl _) h
set_option maxHeartbeats 2000000 in
theorem ParseSize_any (s : ByteArray) (hs : s.size ≤ 4000000000) (w : World) (t : Tab w) :
    Calls Tryz.prog 144 #[.string s] w fun e w' => ∃ v, e = .returned (.tuple #[.int .i64 (sizeR s.data.toList).1, v, .int .i64 (sizeR s.data.toList).2.2]) ∧ OwnP 169 w.heap.size v (sizeR s.data.toList).2.1 w' ∧ Below w.heap.size w w' := by
  by_cases hbig : 254 < s.size
  · have e : sizeR s.data.toList = (0, [], 100) := by unfold sizeR; rw [if_pos (by rw [size_list]; exact hbig)]
    rw [e]
    go_enter Tryz.func144, Tryz.ntmps144
    go_wp2
    go_ret3
    exact ⟨.slice none 0 0, rfl, ownP_nil _ _ _, Below.refl _ _⟩
  have HZ : Hid (sizeR s.data.toList = if s.data.toList.takeWhile hexB = [] ∨ (paramsR (s.data.toList.dropWhile hexB)).2.2 ≠ 0 ∨ trim ((s.data.toList.dropWhile hexB).drop (paramsR (s.data.toList.dropWhile hexB)).2.1.toNat) ≠ [] then (0, [], 100)
    else if (numR 16 (s.data.toList.takeWhile hexB) 1099511627776).2 ≠ 0 then (0, [], 102) else ((numR 16 (s.data.toList.takeWhile hexB) 1099511627776).1, (paramsR (s.data.toList.dropWhile hexB)).1, 0)) := by
    show sizeR _ = _
    unfold sizeR
    rw [if_neg (by rw [size_list]; exact hbig)]
  have hcon := Any.strings_TrimLeft_laid Tryz.lays161 (by kernel_rfl) s ⟨#[48, 49, 50, 51, 52, 53, 54, 55, 56, 57, 65, 66, 67, 68, 69, 70, 97, 98, 99, 100, 101, 102]⟩ w (by decide) (ascii_of_all (by decide))
  change Calls Tryz.prog 162 _ _ (fun e w' => e = .returned (.string (str (s.data.toList.dropWhile hexB))) ∧ Below w.heap.size w w') at hcon
  have hsum := take_drop_hex s.data.toList
  have htk : s.extract 0 (s.data.toList.takeWhile hexB).length = str (s.data.toList.takeWhile hexB) := by rw [take_ext, take_of_hex]
  have HD : Hid (s.data.toList.dropWhile hexB = (str (s.data.toList.dropWhile hexB)).data.toList) := (str_list _).symm
  have HT : Hid (s.data.toList.takeWhile hexB = (str (s.data.toList.takeWhile hexB)).data.toList) := (str_list _).symm
  have hRs := str_size (s.data.toList.dropWhile hexB)
  have hXs := str_size (s.data.toList.takeWhile hexB)
  rw [size_list] at hsum
  generalize str (s.data.toList.dropWhile hexB) = R at *
  generalize str (s.data.toList.takeWhile hexB) = X at *
  generalize (s.data.toList.takeWhile hexB).length = K at *
  rw [← hRs] at hsum
  rw [HD.out, HT.out] at HZ
  clear hRs HD HT
  have hK : K ≤ s.size := by omega
  have hsub : ((s.size : Nat) : Int) - ((R.size : Nat) : Int) = ((K : Nat) : Int) := by omega
  have hRle : R.size ≤ 254 := by omega
  have HXK : Hid (X.size = K) := hXs
  have HC : Hid (Calls Tryz.prog 162 #[.string s, .string ⟨#[48, 49, 50, 51, 52, 53, 54, 55, 56, 57, 65, 66, 67, 68, 69, 70, 97, 98, 99, 100, 101, 102]⟩] w (fun e w' => e = .returned (.string R) ∧ Below w.heap.size w w')) := hcon
  have HP : Hid (∀ w, Tab w → Calls Tryz.prog 163 #[.string R] w fun e w' => ∃ v, e = .returned (.tuple #[v, .int .i64 (paramsR R.data.toList).2.1, .int .i64 (paramsR R.data.toList).2.2]) ∧ OwnP 169 w.heap.size v (paramsR R.data.toList).1 w' ∧ Below w.heap.size w w') := fun w t => Params_any R (by omega) w t
  have HTab : Hid (Tab w) := t
  have HX16 : Hid (∀ w, Calls Tryz.prog 164 #[.string X, .int .i64 1099511627776] w fun e w' => e = .returned (.tuple #[.int .i64 (numR 16 X.data.toList 1099511627776).1, .int .i64 (numR 16 X.data.toList 1099511627776).2]) ∧ Below w.heap.size w w') := fun w => Hex_any X (by unfold maxLen; omega) _ (by decide) (by decide) w
  have hnb := numR_bd X.data.toList
  clear hcon t hsum hXs
  by_cases h0 : K = 0
  · have hX0 : X.toList.isEmpty = true := empty_of (by have := HXK.out; omega)
    have HZ2 : Hid (sizeR s.data.toList = (0, [], 100)) := by
      show sizeR _ = _
      rw [HZ.out, if_pos (.inl (List.length_eq_zero_iff.1 (by rw [size_list, HXK.out, h0])))]
    clear HZ
    go_enter Tryz.func144, Tryz.ntmps144
    go_wp2_with fail
    refine HC.out.mono ?_
    rintro e w1 ⟨rfl, hb1⟩
    have HB1 : Hid (Below w.heap.size w w1) := hb1
    clear hb1
    go_wp2_with fail
    refine (HP.out _ (HTab.out.below HB1.out (Nat.le_refl _))).mono ?_
    rintro e w2 ⟨v, rfl, ho, hb2⟩
    have HB2 : Hid (Below w.heap.size w w2) := bel_trans HB1.out hb2
    clear hb2 ho
    go_wp2
    go_ret3
    rw [HZ2.out]
    exact ⟨.slice none 0 0, rfl, ownP_nil _ _ _, HB2.out⟩
  have hX0 : X.toList.isEmpty = false := nonempty_of (by have := HXK.out; omega)
  have hXne : X.data.toList ≠ [] := fun e => by have := size_list X; rw [e] at this; have := HXK.out; simp at *; omega
  cases hp : prm R.data.toList with
  | none =>
    have hpr := paramsR_none hp
    rw [hpr] at HP HZ
    have HZ2 : Hid (sizeR s.data.toList = (0, [], 100)) := by
      show sizeR _ = _
      rw [HZ.out, if_pos (.inr (.inl (by decide)))]
    clear HZ hpr hp hXne
    go_enter Tryz.func144, Tryz.ntmps144
    go_wp2_with fail
    refine HC.out.mono ?_
    rintro e w1 ⟨rfl, hb1⟩
    have HB1 : Hid (Below w.heap.size w w1) := hb1
    clear hb1
    go_wp2_with fail
    refine (HP.out _ (HTab.out.below HB1.out (Nat.le_refl _))).mono ?_
    rintro e w2 ⟨v, rfl, ho, hb2⟩
    have HB2 : Hid (Below w.heap.size w w2) := bel_trans HB1.out hb2
    clear hb2 ho
    go_wp2
    go_ret3
    rw [HZ2.out]
    exact ⟨.slice none 0 0, rfl, ownP_nil _ _ _, HB2.out⟩
  | some x =>
    have hpr := paramsR_some hp
    have hxle := prm_bound hp
    rw [size_list] at hxle
    rw [hpr] at HP HZ
    obtain ⟨ps, n⟩ := x
    simp only at hxle HP HZ
    have hdr : R.data.toList.drop ((n : Nat) : Int).toNat = (R.extract n R.size).data.toList := by rw [Lib.extract_to_end]; simp
    rw [hdr] at HZ
    have HTr : Hid (∀ w, Calls Tryz.prog 139 #[.string (R.extract n R.size)] w fun e w' => e = .returned (.string (str (trim (R.extract n R.size).data.toList))) ∧ Below w.heap.size w w') := fun w => Trim_any _ (by simp [maxLen]; omega) w
    clear hpr hp hdr
    generalize trim (R.extract n R.size).data.toList = Y at *
    by_cases hY : Y = []
    · have hY0 : (str Y).toList.isEmpty = true := empty_of (by rw [hY]; rfl)
      have HZ2 : Hid (sizeR s.data.toList = if (numR 16 X.data.toList 1099511627776).2 ≠ 0 then (0, [], 102) else ((numR 16 X.data.toList 1099511627776).1, ps, 0)) := by
        show sizeR _ = _
        rw [HZ.out, if_neg (by rintro (h | h | h); exact hXne h; exact h rfl; exact h hY)]
      clear HZ hXne hY
      generalize str Y = Z at *
      generalize numR 16 X.data.toList 1099511627776 = q at *
      obtain ⟨q1, q2⟩ := q
      simp only at hnb HX16 HZ2
      go_enter Tryz.func144, Tryz.ntmps144
      go_wp2_with fail
      refine HC.out.mono ?_
      rintro e w1 ⟨rfl, hb1⟩
      have HB1 : Hid (Below w.heap.size w w1) := hb1
      clear hb1
      go_wp2_with fail
      refine (HP.out _ (HTab.out.below HB1.out (Nat.le_refl _))).mono ?_
      rintro e w2 ⟨v, rfl, ho, hb2⟩
      have HB2 : Hid (Below w.heap.size w w2) := bel_trans HB1.out hb2
      have HO2 : Hid (OwnP 169 w.heap.size v ps w2) := ⟨ho.1, by
        rcases ho.2 with h | ⟨g, cap, cur, e, hb, r⟩
        · exact .inl h
        · exact .inr ⟨g, cap, cur, e, Nat.le_trans HB1.out.size hb, r⟩⟩
      clear hb2 ho
      go_wp2_with fail
      refine (HTr.out _).mono ?_
      rintro e w3 ⟨rfl, hb3⟩
      have HB3 : Hid (Below w.heap.size w w3) := bel_trans HB2.out hb3
      have HO3 : Hid (OwnP 169 w.heap.size v ps w3) := HO2.out.below hb3
      clear hb3
      go_wp2_with fail
      refine (HX16.out _).mono ?_
      rintro e w4 ⟨rfl, hb4⟩
      have HB4 : Hid (Below w.heap.size w w4) := bel_trans HB3.out hb4
      have HO4 : Hid (OwnP 169 w.heap.size v ps w4) := HO3.out.below hb4
      clear hb4
      by_cases hq : q2 = 0
      · subst hq
        go_wp2
        go_ret3
        rw [HZ2.out, if_neg (by simp)]
        exact ⟨v, rfl, HO4.out, HB4.out⟩
      · have hq' : (q2 != 0) = true := by simp [hq]
        have HQ : Hid (q2 ≠ 0) := hq
        clear hq
        go_wp2
        go_ret3
        rw [HZ2.out, if_pos HQ.out]
        exact ⟨.slice none 0 0, rfl, ownP_nil _ _ _, HB4.out⟩
    · have hY0 : (str Y).toList.isEmpty = false := nonempty_of (by rw [str_size]; exact fun h => hY (List.length_eq_zero_iff.1 h))
      have HZ2 : Hid (sizeR s.data.toList = (0, [], 100)) := by
        show sizeR _ = _
        rw [HZ.out, if_pos (.inr (.inr hY))]
      clear HZ hXne hY
      generalize str Y = Z at *
      go_enter Tryz.func144, Tryz.ntmps144
      go_wp2_with fail
      refine HC.out.mono ?_
      rintro e w1 ⟨rfl, hb1⟩
      have HB1 : Hid (Below w.heap.size w w1) := hb1
      clear hb1
      go_wp2_with fail
      refine (HP.out _ (HTab.out.below HB1.out (Nat.le_refl _))).mono ?_
      rintro e w2 ⟨v, rfl, ho, hb2⟩
      have HB2 : Hid (Below w.heap.size w w2) := bel_trans HB1.out hb2
      clear hb2 ho
      go_wp2_with fail
      refine (HTr.out _).mono ?_
      rintro e w3 ⟨rfl, hb3⟩
      have HB3 : Hid (Below w.heap.size w w3) := bel_trans HB2.out hb3
      clear hb3
      go_wp2
      go_ret3
      rw [HZ2.out]
      exact ⟨.slice none 0 0, rfl, ownP_nil _ _ _, HB3.out⟩
end Ck
end Go.Proofs.YtdcfhnbagldilaaGreatDoor
set_option linter.unusedVariables false
set_option linter.unusedSimpArgs false
set_option maxRecDepth 100000
namespace Go.Proofs.YtdcfhnbagldilaaGreatDoor
open Go.RowKit Go.Shelf Go.Lib
namespace Ck
open Oc Tg _root_.Go.Proofs.YtdcfhnbagldilaaGreatDoor.Fd
structure Base (w0 w : World) (bs : List Nat) : Prop where
  env : Env w0
  bel : Below w0.heap.size w0 w
  new : ∀ x, x ∈ bs → w0.heap.size ≤ x
theorem Base.goes {w0 w w' : World} {bs cs : List Nat} (h : Base w0 w bs) (g : Goes bs w cs w') : Base w0 w' cs := ⟨h.env, g.bel h.new h.bel, g.new h.bel.size h.new⟩
theorem Base.at {w0 w : World} {bs : List Nat} (h : Base w0 w bs) : Env w := h.env.below h.bel
theorem Base.below {w0 w w' : World} {bs : List Nat} (h : Base w0 w bs) (b : Below w.heap.size w w') : Base w0 w' bs := h.goes (Goes.below b)
theorem said_le (s : DS) : (said s).length ≤ s.line.length := by
  unfold said Lib.trimSuffix
  split
  · simp
  · exact Nat.le_refl _
theorem Dec.cells {w : World} {D : Nat} {s : DS} {bs : List Nat} (h : Dec w D s bs) : ∃ vl vb vt, w.cell? ⟨D, 0, none⟩ = some (fnV s.mode) ∧ w.cell? ⟨D, 1, none⟩ = some (.bool s.done) ∧ w.cell? ⟨D, 2, none⟩ = some (.int .i64 s.err) ∧ w.cell? ⟨D, 3, none⟩ = some (.int .i64 s.most) ∧ w.cell? ⟨D, 4, none⟩ = some (.int .i64 s.room) ∧ w.cell? ⟨D, 5, none⟩ = some (.int .i64 s.fields) ∧ w.cell? ⟨D, 6, none⟩ = some (.int .i64 s.left) ∧ w.cell? ⟨D, 7, none⟩ = some (.int .i64 s.total) ∧ w.cell? ⟨D, 8, none⟩ = some vl ∧ w.cell? ⟨D, 9, none⟩ = some vb ∧ w.cell? ⟨D, 10, none⟩ = some vt ∧ ∀ i, w.frozen? ⟨D, i, none⟩ = false := by
  obtain ⟨vl, vb, vt, H, _⟩ := h
  exact ⟨vl, vb, vt, row11 H.str⟩
set_option maxHeartbeats 4000000 in
theorem endSize_any {w0 w : World} {D : Nat} {s : DS} {bs : List Nat} (HB : Base w0 w bs) (H : Dec w D s bs) (hl : s.line.length ≤ 4000000000) (hne : s.line ≠ []) (hm0 : 0 ≤ s.most) (hm1 : s.most ≤ 9223372036854775807) :
    Calls Tryz.prog 123 #[.pointer (some ⟨D, 0, none⟩)] w fun ex w' => ex = .returned (.tuple #[]) ∧ ∃ bs', Dec w' D (endSize s) bs' ∧ Goes bs w bs' w' := by
  have HHB : Hid (Base w0 w bs) := HB
  have HT : Hid (Calls Tryz.prog 143 #[.pointer (some ⟨D, 0, none⟩)] w fun ex w' => ex = .returned (.tuple #[.string (str (said s)), .bool (right s)]) ∧ ∃ bs', Dec w' D (bare s) bs' ∧ Goes bs w bs' w') := takeLine_any H hl hne
  have hq := sizeR_bd (said s)
  have HP : Hid (∀ w, Tab w → Calls Tryz.prog 144 #[.string (str (said s))] w fun e w' => ∃ v, e = .returned (.tuple #[.int .i64 (sizeR (said s)).1, v, .int .i64 (sizeR (said s)).2.2]) ∧ OwnP 169 w.heap.size v (sizeR (said s)).2.1 w' ∧ Below w.heap.size w w') := fun w t => by
    have h := ParseSize_any (str (said s)) (by rw [str_size]; have := said_le s; omega) w t
    rw [str_list] at h
    exact h
  have HE : Hid (endSize s = if right s = false then fin (bare s) 100 else if (sizeR (said s)).2.2 ≠ 0 then fin (bare s) (sizeR (said s)).2.2 else if s.most < (sizeR (said s)).1 then fin (bare s) 102 else if (sizeR (said s)).1 = 0 then { bare s with mode := 4 } else { bare s with most := s.most - (sizeR (said s)).1, left := (sizeR (said s)).1, mode := 1 }) := rfl
  generalize sizeR (said s) = q at *
  obtain ⟨q1, q2, q3⟩ := q
  simp only at hq HP HE
  generalize str (said s) = L at *
  generalize right s = r at *
  obtain ⟨hq0, hq1⟩ := hq
  clear H HB hl hne
  go_enter Tryz.func123, Tryz.ntmps123
  go_wp2_with fail
  refine HT.out.mono ?_
  rintro e w1 ⟨rfl, bs1, hd1, hg1⟩
  have HD1 : Hid (Dec w1 D (bare s) bs1) := hd1
  have HG1 : Hid (Goes bs w bs1 w1) := hg1
  clear hd1 hg1
  go_wp2_with fail
  refine (HP.out _ (HHB.out.goes HG1.out).at.1).mono ?_
  rintro e w2 ⟨v, rfl, _, hb2⟩
  have HD2 : Hid (Dec w2 D (bare s) bs1) := HD1.out.below hb2
  have HG2 : Hid (Goes bs w bs1 w2) := HG1.out.trans (Goes.below hb2)
  clear hb2 HT HP
  have HEnd : Hid (∀ e : Int, Calls Tryz.prog 124 #[.pointer (some ⟨D, 0, none⟩), .int .i64 e] w2 fun ex w' => ex = .returned (.tuple #[]) ∧ ∃ bs', Dec w' D (fin (bare s) e) bs' ∧ Goes bs1 w2 bs' w') := fun e => end_any HD2.out e
  cases r with
  | false =>
    go_wp2_with fail
    refine (HEnd.out 100).mono ?_
    rintro e w3 ⟨rfl, bs3, hd3, hg3⟩
    go_wp2
    go_end0
    rw [HE.out, if_pos (by simp)]
    exact ⟨rfl, bs3, hd3, HG2.out.trans hg3⟩
  | true =>
    by_cases h3 : q3 = 0
    · subst h3
      obtain ⟨vl, vb, vt, c0, c1, c2, c3, c4, c5, c6, c7, c8, c9, c10, cf⟩ := HD2.out.cells
      by_cases h4 : s.most < q1
      · have HX : Hid (s.most < q1) := h4
        have h4' : (s.most < q1) = True := eq_true h4
        have c3' : w2.cell? ⟨D, 3, none⟩ = some (.int .i64 s.most) := c3
        clear c0 c1 c2 c3 c4 c5 c6 c7 c8 c9 c10
        go_wp2_with fail
        refine (HEnd.out 102).mono ?_
        rintro e w3 ⟨rfl, bs3, hd3, hg3⟩
        go_wp2
        go_end0
        rw [HE.out, if_neg (by simp), if_neg (by simp), if_pos HX.out]
        exact ⟨rfl, bs3, hd3, HG2.out.trans hg3⟩
      · have HX : Hid (¬ s.most < q1) := h4
        have c3' : w2.cell? ⟨D, 3, none⟩ = some (.int .i64 s.most) := c3
        by_cases h5 : q1 = 0
        · subst h5
          obtain ⟨xl, xb, xt, HI, hbs⟩ := HD2.out
          have HII : Hid (IsD w2 D (bare s) xl xb xt) := HI
          have HBS : Hid (bs1 = ft D xl xb xt) := hbs
          clear HI hbs
          clear c1 c2 c3 c4 c5 c7 c8 c9 c10
          go_wp2
          go_end0
          have hA := HII.out.at.set 0 (fnV 4)
          rw [HE.out, if_neg (by simp), if_neg (by simp), if_neg (by have := HX.out; omega), if_pos (by simp)]
          refine ⟨rfl, _, ⟨xl, xb, xt, IsD.build HII.out.str hA rfl HII.out.line HII.out.body HII.out.tr HII.out.sep, rfl⟩, ?_⟩
          rw [HBS.out] at HG2
          exact HG2.out.trans (goes_ft (hA.ftd _ _ _) (fun g h => .inl h) (fun g h => .inl h) (fun g h => .inl h))
        · obtain ⟨xl, xb, xt, HI, hbs⟩ := HD2.out
          have HII : Hid (IsD w2 D (bare s) xl xb xt) := HI
          have HBS : Hid (bs1 = ft D xl xb xt) := hbs
          clear HI hbs
          have HX5 : Hid (¬ q1 = 0) := h5
          clear c1 c2 c3 c4 c5 c7 c8 c9 c10
          have h5' : (q1 == 0) = false := by simp [h5]
          go_wp2
          go_end0
          have hA := ((HII.out.at.set 3 (.int .i64 (s.most - q1))).set 6 (.int .i64 q1)).set 0 (fnV 1)
          rw [HE.out, if_neg (by simp), if_neg (by simp), if_neg (by have := HX.out; omega), if_neg HX5.out]
          refine ⟨rfl, _, ⟨xl, xb, xt, IsD.build HII.out.str hA rfl HII.out.line HII.out.body HII.out.tr HII.out.sep, rfl⟩, ?_⟩
          rw [HBS.out] at HG2
          exact HG2.out.trans (goes_ft (hA.ftd _ _ _) (fun g h => .inl h) (fun g h => .inl h) (fun g h => .inl h))
    · have HX : Hid (q3 ≠ 0) := h3
      have h3' : (q3 != 0) = true := by simp [h3]
      clear h3
      go_wp2_with fail
      refine (HEnd.out q3).mono ?_
      rintro e w3 ⟨rfl, bs3, hd3, hg3⟩
      go_wp2
      go_end0
      rw [HE.out, if_neg (by simp), if_pos HX.out]
      exact ⟨rfl, bs3, hd3, HG2.out.trans hg3⟩
set_option maxHeartbeats 1000000 in
theorem behindChunk_any {w : World} {D : Nat} {s : DS} {bs : List Nat} (H : Dec w D s bs) (t : ByteArray) (ht : 0 < t.size) (u : UInt8) (hu : byt t 0 = (u.toNat : Int)) :
    Calls Tryz.prog 167 #[.pointer (some ⟨D, 0, none⟩), .string t] w fun ex w' => ex = .returned (.int .i64 1) ∧ ∃ bs', Dec w' D (behindChunk s u) bs' ∧ Goes bs w bs' w' := by
  obtain ⟨vl, vb, vt, H, rfl⟩ := H
  have HH : Hid (IsD w D s vl vb vt) := H
  obtain ⟨c0, c1, c2, c3, c4, c5, c6, c7, c8, c9, c10, cf⟩ := row11 H.str
  clear H
  have hby : (((t[0]'ht).toNat : Nat) : Int) = byt t 0 := byt_at t 0 ht
  rw [hu] at hby
  have hA := HH.out.at.set 0 (fnV 3)
  have HI : Hid (IsD (w.setCell ⟨D, 0, none⟩ (fnV 3)) D { s with mode := 3 } vl vb vt) := IsD.build HH.out.str hA rfl HH.out.line HH.out.body HH.out.tr HH.out.sep
  have HG : Hid (Goes (ft D vl vb vt) w (ft D vl vb vt) (w.setCell ⟨D, 0, none⟩ (fnV 3))) := goes_ft (hA.ftd _ _ _) (fun g h => .inl h) (fun g h => .inl h) (fun g h => .inl h)
  have HEnd : Hid (∀ e : Int, Calls Tryz.prog 124 #[.pointer (some ⟨D, 0, none⟩), .int .i64 e] (w.setCell ⟨D, 0, none⟩ (.func (.func 190) #[] #[])) fun ex w' => ex = .returned (.tuple #[]) ∧ ∃ bs', Dec w' D (fin { s with mode := 3 } e) bs' ∧ Goes (ft D vl vb vt) (w.setCell ⟨D, 0, none⟩ (fnV 3)) bs' w') := fun e => end_any ⟨vl, vb, vt, HI.out, rfl⟩ e
  clear hA
  by_cases h : u = 13
  · have hb : ((u.toNat : Int) != 13) = false := by subst h; rfl
    have HU : Hid (u = 13) := h
    clear h hu
    generalize (u.toNat : Int) = x at *
    go_enter Tryz.func167, Tryz.ntmps167
    go_wp2
    go_ret
    unfold behindChunk
    rw [if_pos HU.out]
    exact ⟨rfl, _, ⟨vl, vb, vt, HI.out, rfl⟩, HG.out⟩
  · have hb : ((u.toNat : Int) != 13) = true := by
      simp only [bne_iff_ne, ne_eq]
      intro e
      exact h (UInt8.toNat_inj.1 (by show u.toNat = 13; omega))
    have HU : Hid (¬ u = 13) := h
    clear h hu
    generalize (u.toNat : Int) = x at *
    go_enter Tryz.func167, Tryz.ntmps167
    go_wp2_with fail
    refine (HEnd.out 100).mono ?_
    rintro e w3 ⟨rfl, bs3, hd3, hg3⟩
    go_wp2
    go_ret
    unfold behindChunk
    rw [if_neg HU.out]
    exact ⟨rfl, bs3, hd3, HG.out.trans hg3⟩
set_option maxHeartbeats 1000000 in
theorem behindReturn_any {w : World} {D : Nat} {s : DS} {bs : List Nat} (H : Dec w D s bs) (t : ByteArray) (ht : 0 < t.size) (u : UInt8) (hu : byt t 0 = (u.toNat : Int)) :
    Calls Tryz.prog 190 #[.pointer (some ⟨D, 0, none⟩), .string t] w fun ex w' => ex = .returned (.int .i64 1) ∧ ∃ bs', Dec w' D (behindReturn s u) bs' ∧ Goes bs w bs' w' := by
  obtain ⟨vl, vb, vt, H, rfl⟩ := H
  have HH : Hid (IsD w D s vl vb vt) := H
  obtain ⟨c0, c1, c2, c3, c4, c5, c6, c7, c8, c9, c10, cf⟩ := row11 H.str
  clear H
  have hby : (((t[0]'ht).toNat : Nat) : Int) = byt t 0 := byt_at t 0 ht
  rw [hu] at hby
  have hA := HH.out.at.set 0 (fnV 0)
  have HI : Hid (IsD (w.setCell ⟨D, 0, none⟩ (fnV 0)) D { s with mode := 0 } vl vb vt) := IsD.build HH.out.str hA rfl HH.out.line HH.out.body HH.out.tr HH.out.sep
  have HG : Hid (Goes (ft D vl vb vt) w (ft D vl vb vt) (w.setCell ⟨D, 0, none⟩ (fnV 0))) := goes_ft (hA.ftd _ _ _) (fun g h => .inl h) (fun g h => .inl h) (fun g h => .inl h)
  have HEnd : Hid (∀ e : Int, Calls Tryz.prog 124 #[.pointer (some ⟨D, 0, none⟩), .int .i64 e] (w.setCell ⟨D, 0, none⟩ (.func (.func 104) #[] #[])) fun ex w' => ex = .returned (.tuple #[]) ∧ ∃ bs', Dec w' D (fin { s with mode := 0 } e) bs' ∧ Goes (ft D vl vb vt) (w.setCell ⟨D, 0, none⟩ (fnV 0)) bs' w') := fun e => end_any ⟨vl, vb, vt, HI.out, rfl⟩ e
  clear hA
  by_cases h : u = 10
  · have hb : ((u.toNat : Int) != 10) = false := by subst h; rfl
    have HU : Hid (u = 10) := h
    clear h hu
    generalize (u.toNat : Int) = x at *
    go_enter Tryz.func190, Tryz.ntmps190
    go_wp2
    go_ret
    unfold behindReturn
    rw [if_pos HU.out]
    exact ⟨rfl, _, ⟨vl, vb, vt, HI.out, rfl⟩, HG.out⟩
  · have hb : ((u.toNat : Int) != 10) = true := by
      simp only [bne_iff_ne, ne_eq]
      intro e
      exact h (UInt8.toNat_inj.1 (by show u.toNat = 10; omega))
    have HU : Hid (¬ u = 10) := h
    clear h hu
    generalize (u.toNat : Int) = x at *
    go_enter Tryz.func190, Tryz.ntmps190
    go_wp2_with fail
    refine (HEnd.out 100).mono ?_
    rintro e w3 ⟨rfl, bs3, hd3, hg3⟩
    go_wp2
    go_ret
    unfold behindReturn
    rw [if_neg HU.out]
    exact ⟨rfl, bs3, hd3, HG.out.trans hg3⟩
end Ck
end Go.Proofs.YtdcfhnbagldilaaGreatDoor
