/- Several texts as one. -/
import Derived.Test.YticncpjpkgdnlaaGreatDoorMgE
import Derived.Test.YticncpjpkgdnlaaGreatDoorMgD
import Derived.Test.YticncpjpkgdnlaaGreatDoorMgB
import Derived.Test.YticncpjpkgdnlaaGreatDoorMgK
import Derived.Below
import Derived.Deep.Draws
import Derived.Laws.OwnMore
import Derived.Laws.Rows
import Derived.Lib.Strings
import Derived.Test.YticncpjpkgdnlaaGreatDoorMgG
/-
  Worlds that are as they were but for some blocks; a decoder of chunks: what each byte does, plainly; a decoder in memory.
-/
set_option linter.unusedVariables false
set_option linter.unusedSimpArgs false
set_option maxRecDepth 100000
namespace Go.Proofs.YticncpjpkgdnlaaGreatDoor
open Go.RowKit Go.Shelf
namespace Ck
open Oc Tg _root_.Go.Proofs.YticncpjpkgdnlaaGreatDoor.Fd

/-- Of what was there nothing has turned but the blocks bs. -/
structure But (bs : List Nat) (w w' : World) : Prop where
  os : w'.os = w.os
  tape : w'.tape = w.tape
  output : w'.output = w.output
  size : w.heap.size ≤ w'.heap.size
  block : ∀ k, k < w.heap.size → k ∉ bs → w'.heap[k]? = w.heap[k]?
theorem But.refl (bs : List Nat) (w : World) : But bs w w := ⟨rfl, rfl, rfl, Nat.le_refl _, fun _ _ _ => rfl⟩
theorem But.trans {bs : List Nat} {a b c : World} (h : But bs a b) (k : But bs b c) : But bs a c :=
  ⟨k.os.trans h.os, k.tape.trans h.tape, k.output.trans h.output, Nat.le_trans h.size k.size, fun i hi hn => (k.block i (Nat.lt_of_lt_of_le hi h.size) hn).trans (h.block i hi hn)⟩
theorem But.mono {bs cs : List Nat} {a b : World} (h : But bs a b) (hs : ∀ x, x ∈ bs → x ∈ cs) : But cs a b := ⟨h.os, h.tape, h.output, h.size, fun i hi hn => h.block i hi (fun e => hn (hs i e))⟩
theorem But.nil {cs : List Nat} {a b : World} (h : But [] a b) : But cs a b := h.mono (fun _ e => by cases e)
theorem But.of_below {w w' : World} (h : Below w.heap.size w w') : But [] w w' := ⟨h.os, h.tape, h.output, h.size, fun k hk _ => h.block k hk⟩
theorem But.below {bs : List Nat} {w w' : World} {B : Nat} (h : But bs w w') (hB : B ≤ w.heap.size) (hb : ∀ x, x ∈ bs → B ≤ x) : Below B w w' :=
  ⟨h.os, h.tape, h.output, h.size, fun k hk => h.block k (by omega) (fun e => by have := hb k e; omega)⟩
theorem But.alloc {bs : List Nat} {a w : World} (h : But bs a w) (o : Obj) : But bs a (w.alloc o) := h.trans ⟨rfl, rfl, rfl, by simp, fun k hk _ => Below.heap_alloc _ _ _ hk⟩
theorem But.setCell {bs : List Nat} {a w : World} (h : But bs a w) {p : Addr} (hp : p.block ∈ bs) (u : Value) : But bs a (w.setCell p u) :=
  h.trans ⟨rfl, rfl, rfl, by simp [World.setCell], fun k hk hn => Below.heap_setCell _ _ _ _ (fun e => hn (e ▸ hp))⟩
theorem But.setRow {bs : List Nat} {a w : World} (h : But bs a w) {g : Nat} (hp : g ∈ bs) (cs : Array Value) : But bs a (w.setRow g cs) :=
  h.trans ⟨rfl, rfl, rfl, by simp [World.setRow], fun k hk hn => setRow_other w g k cs (fun e => hn (e ▸ hp))⟩
theorem But.drew {bs : List Nat} {a w : World} (h : But bs a w) : But bs a w.drew := ⟨h.os, h.tape, h.output, h.size, h.block⟩
theorem But.drewN {bs : List Nat} {a w : World} (h : But bs a w) (q : Nat) : But bs a (w.drewN q) := by
  induction q with
  | zero => exact h
  | succ q ih => exact ih.drew
theorem But.grown {bs : List Nat} {a w w' : World} {row : Option Nat} (h : But bs a w) (hg : w.grownBy w' row) (hr : ∀ k, row = some k → k ∈ bs) : But bs a w' :=
  h.trans ⟨hg.os, hg.tape, hg.output, hg.size, fun k hk hn => hg.block k hk (fun e => hn (hr k e.symm))⟩
theorem But.cell {bs : List Nat} {w w' : World} (h : But bs w w') {p : Addr} {v : Value} (hc : w.cell? p = some v) (hn : p.block ∉ bs) : w'.cell? p = some v := by
  rw [World.cell?_of_block (w := w) (h.block p.block (World.block_lt_of_cell? w _ hc) hn)]
  exact hc
theorem But.heap {bs : List Nat} {w w' : World} (h : But bs w w') {b : Nat} {o : Obj} (hc : w.heap[b]? = some o) (hn : b ∉ bs) : w'.heap[b]? = some o := by
  rw [h.block b (Array.getElem?_eq_some_iff.1 hc).1 hn]
  exact hc
theorem But.owns {bs : List Nat} {w w' : World} (h : But bs w w') {B T S n : Nat} {v : Value} {xs : List Value} (ho : w.ownsRow B T S v n xs) (hn : ∀ g, v.ownBlock = some g → g ∉ bs) : w'.ownsRow B T S v n xs := by
  refine ⟨ho.1, ?_⟩
  rcases ho.2 with hz | ⟨g, cap, cur, rfl, hb, hg, rest⟩
  · exact .inl hz
  · exact .inr ⟨g, cap, cur, rfl, hb, h.heap hg (hn g rfl), rest⟩
theorem bel_drewN {B : Nat} {a w : World} (h : Below B a w) (q : Nat) : Below B a (w.drewN q) := by
  induction q with
  | zero => exact h
  | succ q ih => exact ih.drew

/-- What had the blocks bs has now the blocks bs', of which the new ones are new; nothing else has turned. -/
structure Goes (bs : List Nat) (w : World) (bs' : List Nat) (w' : World) : Prop where
  but : But bs w w'
  sub : ∀ x, x ∈ bs' → x ∈ bs ∨ w.heap.size ≤ x
theorem Goes.trans {bs cs ds : List Nat} {a b c : World} (h : Goes bs a cs b) (k : Goes cs b ds c) : Goes bs a ds c := by
  refine ⟨⟨k.but.os.trans h.but.os, k.but.tape.trans h.but.tape, k.but.output.trans h.but.output, Nat.le_trans h.but.size k.but.size, fun i hi hn => ?_⟩, fun x hx => ?_⟩
  · refine (k.but.block i (Nat.lt_of_lt_of_le hi h.but.size) (fun e => ?_)).trans (h.but.block i hi hn)
    rcases h.sub i e with e | e
    · exact hn e
    · omega
  · rcases k.sub x hx with e | e
    · exact h.sub x e
    · exact .inr (Nat.le_trans h.but.size e)
theorem Goes.below {bs : List Nat} {w w' : World} (h : Below w.heap.size w w') : Goes bs w bs w' := ⟨(But.of_below h).nil, fun _ h => .inl h⟩
theorem Goes.refl (bs : List Nat) (w : World) : Goes bs w bs w := ⟨But.refl _ _, fun _ h => .inl h⟩
/-- Where all its blocks are new, all that was there stays. -/
theorem Goes.bel {bs cs : List Nat} {w0 w w' : World} (h : Goes bs w cs w') (hn : ∀ x, x ∈ bs → w0.heap.size ≤ x) (hb : Below w0.heap.size w0 w) : Below w0.heap.size w0 w' :=
  hb.trans (h.but.below hb.size hn)
theorem Goes.new {bs cs : List Nat} {w w' : World} (h : Goes bs w cs w') {B : Nat} (hB : B ≤ w.heap.size) (hn : ∀ x, x ∈ bs → B ≤ x) : ∀ x, x ∈ cs → B ≤ x := fun x hx => by
  rcases h.sub x hx with e | e
  · exact hn x e
  · omega

/-- The hexadecimal digits. -/
def hexSet : List UInt8 := [48, 49, 50, 51, 52, 53, 54, 55, 56, 57, 65, 66, 67, 68, 69, 70, 97, 98, 99, 100, 101, 102]
def hexB (c : UInt8) : Bool := hexSet.contains c
/-- What a size line says: the size, the parameters, the error. -/
def sizeR (l : List UInt8) : Int × List Prm × Int :=
  if 254 < l.length then (0, [], 100)
  else if l.takeWhile hexB = [] ∨ (paramsR (l.dropWhile hexB)).2.2 ≠ 0 ∨ trim ((l.dropWhile hexB).drop (paramsR (l.dropWhile hexB)).2.1.toNat) ≠ [] then (0, [], 100)
  else if (numR 16 (l.takeWhile hexB) 1099511627776).2 ≠ 0 then (0, [], 102)
  else ((numR 16 (l.takeWhile hexB) 1099511627776).1, (paramsR (l.dropWhile hexB)).1, 0)

/-- The names that may not trail. -/
def heads : List (List UInt8) := [[99, 111, 110, 110, 101, 99, 116, 105, 111, 110], [99, 111, 110, 116, 101, 110, 116, 45, 101, 110, 99, 111, 100, 105, 110, 103], [99, 111, 110, 116, 101, 110, 116, 45, 108, 101, 110, 103, 116, 104], [99, 111, 110, 116, 101, 110, 116, 45, 114, 97, 110, 103, 101], [99, 111, 110, 116, 101, 110, 116, 45, 116, 121, 112, 101], [101, 120, 112, 101, 99, 116], [104, 111, 115, 116], [107, 101, 101, 112, 45, 97, 108, 105, 118, 101], [116, 101], [116, 114, 97, 105, 108, 101, 114], [116, 114, 97, 110, 115, 102, 101, 114, 45, 101, 110, 99, 111, 100, 105, 110, 103], [117, 112, 103, 114, 97, 100, 101]]
def trails (l : List UInt8) : Bool := isName l && !heads.contains (lower l)

/-- A decoder, plainly. mode: 0 a size line, 1 a chunk, 2 behind it, 3 behind the return, 4 trailers, 5 over. -/
structure DS where
  mode : Nat
  done : Bool
  err : Int
  most : Int
  room : Int
  fields : Int
  left : Int
  total : Int
  line : List UInt8
  body : List UInt8
  tr : List Fl
def fin (s : DS) (e : Int) : DS := { s with mode := 5, line := [], err := e, done := e == 0 }
def crlf : List UInt8 := [13, 10]
def said (s : DS) : List UInt8 := Lib.trimSuffix s.line crlf
def right (s : DS) : Bool := Lib.hasSuffix s.line crlf
def bare (s : DS) : DS := { s with line := [] }
def endSize (s : DS) : DS :=
  if right s = false then fin (bare s) 100
  else if (sizeR (said s)).2.2 ≠ 0 then fin (bare s) (sizeR (said s)).2.2
  else if s.most < (sizeR (said s)).1 then fin (bare s) 102
  else if (sizeR (said s)).1 = 0 then { bare s with mode := 4 }
  else { bare s with most := s.most - (sizeR (said s)).1, left := (sizeR (said s)).1, mode := 1 }
def put (s : DS) (c : UInt8) : DS := { s with line := s.line ++ [c] }
def inSize (s : DS) (c : UInt8) : DS := if c = 10 then endSize (put s c) else if s.line.length + 1 = 256 then fin (put s c) 100 else put s c
def inChunk (s : DS) (t : List UInt8) : DS := { s with body := s.body ++ t, left := s.left - t.length, mode := if s.left - t.length = 0 then 2 else 1 }
def behindChunk (s : DS) (c : UInt8) : DS := if c = 13 then { s with mode := 3 } else fin { s with mode := 3 } 100
def behindReturn (s : DS) (c : UInt8) : DS := if c = 10 then { s with mode := 0 } else fin { s with mode := 0 } 100
def keep (s : DS) (l : List UInt8) : DS :=
  if (parseL l).2.2 ≠ 0 ∨ trails (parseL l).1.1 = false then fin s 101 else { s with fields := s.fields - 1, tr := s.tr ++ [(parseL l).1] }
def endTrailer (s : DS) : DS :=
  if right s = false then fin (bare s) 101
  else if said s = [] then fin (bare s) 0
  else if s.fields = 0 then fin (bare s) 104
  else keep (bare s) (said s)
def inTrailers (s : DS) (c : UInt8) : DS :=
  if s.room = 0 then fin s 104
  else if c = 10 then endTrailer (put { s with room := s.room - 1 } c) else put { s with room := s.room - 1 } c
/-- One byte. -/
def bstep (s : DS) (c : UInt8) : DS :=
  match s.mode with
  | 0 => inSize s c
  | 1 => inChunk s [c]
  | 2 => behindChunk s c
  | 3 => behindReturn s c
  | 4 => inTrailers s c
  | _ => s
/-- Bytes, as many as are taken. -/
def eat : DS → List UInt8 → Nat × DS
  | s, [] => (0, s)
  | s, c :: t => if s.mode = 5 then (0, s) else ((eat (bstep s c) t).1 + 1, (eat (bstep s c) t).2)
/-- One that has taken nothing. -/
def new (most room fields : Int) : DS := ⟨0, false, 0, most, room, fields, 0, 0, [], [], []⟩

/-- What stays within bounds: k bytes were taken. -/
structure Ok (s : DS) (k : Nat) : Prop where
  mode : s.mode ≤ 5
  most : 0 ≤ s.most ∧ s.most ≤ 9223372036854775807
  room : 0 ≤ s.room ∧ s.room ≤ 9223372036854775807
  fields : 0 ≤ s.fields ∧ s.fields ≤ 9223372036854775807
  left : 0 ≤ s.left ∧ s.left ≤ 1099511627776
  pos : s.mode = 1 → 0 < s.left
  total : 0 ≤ s.total ∧ s.total ≤ (k : Int)
  len : s.line.length + s.body.length + s.tr.length ≤ k
  size : s.mode ≤ 3 → s.line.length < 256
  bare : s.mode = 1 ∨ s.mode = 2 ∨ s.mode = 3 → s.line = []
  over : s.mode = 5 ↔ (s.done = true ∨ s.err ≠ 0)

theorem numR_bd (l : List UInt8) : 0 ≤ (numR 16 l 1099511627776).1 ∧ (numR 16 l 1099511627776).1 ≤ 1099511627776 := by
  have h0 : 0 ≤ numOf 16 l := by
    have := pre_nonneg 16 (by decide) (str l) (str l).size (Nat.le_refl _)
    rw [pre_all, str_list] at this
    exact this
  unfold numR
  split
  · exact ⟨by decide, by decide⟩
  · split
    · exact ⟨by decide, by decide⟩
    · rename_i h
      exact ⟨h0, by show numOf 16 l ≤ _; omega⟩
theorem sizeR_bd (l : List UInt8) : 0 ≤ (sizeR l).1 ∧ (sizeR l).1 ≤ 1099511627776 := by
  have := numR_bd (l.takeWhile hexB)
  unfold sizeR
  split
  · exact ⟨by decide, by decide⟩
  · split
    · exact ⟨by decide, by decide⟩
    · split
      · exact ⟨by decide, by decide⟩
      · exact this
theorem sizeR_err (l : List UInt8) : (sizeR l).2.2 = 0 ∨ (sizeR l).2.2 = 100 ∨ (sizeR l).2.2 = 102 := by
  unfold sizeR
  split
  · exact .inr (.inl rfl)
  · split
    · exact .inr (.inl rfl)
    · split
      · exact .inr (.inr rfl)
      · exact .inl rfl

end Ck
end Go.Proofs.YticncpjpkgdnlaaGreatDoor

/-
  handle: a block and its cells (out of MsH), a response's four cells written anew.
-/
set_option linter.unusedVariables false
set_option linter.unusedSimpArgs false
set_option maxRecDepth 100000
namespace Go.Proofs.YticncpjpkgdnlaaGreatDoor
open Go.RowKit Go.Shelf
namespace Ms
open Oc Tg _root_.Go.Proofs.YticncpjpkgdnlaaGreatDoor.Fd _root_.Go.Proofs.YticncpjpkgdnlaaGreatDoor.Ck

/-- A block of that type with those cells. -/
def Blk (T : Nat) (w : World) (D : Nat) (cs : List Value) : Prop := w.heap[D]? = some (.cells cs.toArray T (0, 0))
theorem Blk.lt {T : Nat} {w : World} {D : Nat} {cs : List Value} (h : Blk T w D cs) : D < w.heap.size := (Array.getElem?_eq_some_iff.1 h).1
theorem Blk.cell {T : Nat} {w : World} {D : Nat} {cs : List Value} (h : Blk T w D cs) (i : Nat) {v : Value} (hv : cs[i]? = some v) : w.cell? ⟨D, i, none⟩ = some v := by
  unfold Blk at h
  rw [cell_of_row w D _ _ _ _ h]
  simpa using hv
theorem Blk.free {T : Nat} {w : World} {D : Nat} {cs : List Value} (h : Blk T w D cs) (i : Nat) : w.frozen? ⟨D, i, none⟩ = false := frozen_of_row w D i _ _ h
theorem Blk.set {T : Nat} {w : World} {D : Nat} {cs : List Value} (h : Blk T w D cs) (i : Nat) (v : Value) : Blk T (w.setCell ⟨D, i, none⟩ v) D (cs.set i v) := by
  have := heap_setCell_same w D i cs.toArray _ v h
  unfold Blk
  rw [this, List.setIfInBounds_toArray]
theorem Blk.below {T : Nat} {w w' : World} {D : Nat} {cs : List Value} (h : Blk T w D cs) (b : Below w.heap.size w w') : Blk T w' D cs := by
  unfold Blk at *
  rw [b.block D (Array.getElem?_eq_some_iff.1 h).1]
  exact h
theorem Blk.but {T : Nat} {w w' : World} {D : Nat} {cs : List Value} {bs : List Nat} (h : Blk T w D cs) (b : But bs w w') (hn : D ∉ bs) : Blk T w' D cs := b.heap h hn
theorem Blk.ne {T T' : Nat} {w : World} {D g B S n : Nat} {v : Value} {xs cs : List Value} (h : Blk T w D cs) (ho : w.ownsRow B T' S v n xs) (hT : T ≠ T') (hg : v.ownBlock = some g) : g ≠ D := by
  intro e
  subst e
  rcases ho.2 with ⟨rfl, _⟩ | ⟨g', cap, cur, rfl, _, hg', _⟩
  · cases hg
  · have : g' = g := by simpa [Value.ownBlock] using hg
    subst this
    unfold Blk at h
    rw [h] at hg'
    injection hg' with e
    injection e with _ e2 _
    exact hT e2
theorem Blk.keep {T T' : Nat} {w w' : World} {D B S n : Nat} {v : Value} {xs cs : List Value} (h : Blk T w D cs) (ho : w.ownsRow B T' S v n xs) (hT : T ≠ T') (hb : But [D] w w') : w'.ownsRow B T' S v n xs :=
  hb.owns ho (fun g hg e => h.ne ho hT hg (by simpa using e))

theorem setD {w0 w : World} {D : Nat} (h : But [D] w0 w) (i : Nat) (v : Value) : But [D] w0 (w.setCell ⟨D, i, none⟩ v) := h.setCell (by simp) _

theorem own_upF {w : World} {T S n B B' : Nat} {v : Value} {xs : List Value} (h : w.ownsRow B T S v n xs) (hb : B' ≤ B) : w.ownsRow B' T S v n xs := by
  refine ⟨h.1, ?_⟩
  rcases h.2 with hn | ⟨g, cap, cur, e, hg, rest⟩
  · exact .inl hn
  · exact .inr ⟨g, cap, cur, e, Nat.le_trans hb hg, rest⟩

theorem Blk.low {T : Nat} {w w' : World} {D n : Nat} {cs : List Value} (h : Blk T w D cs) (b : Below n w w') (hD : D < n) : Blk T w' D cs := by
  unfold Blk at *
  rw [b.block D hD]
  exact h
def set4 (w : World) (g : Nat) (v0 v1 v2 v3 : Value) : World := ((((w.setCell ⟨g, 0, none⟩ v0).setCell ⟨g, 1, none⟩ v1).setCell ⟨g, 2, none⟩ v2).setCell ⟨g, 3, none⟩ v3)
theorem set4_blk {T : Nat} {w : World} {g : Nat} {a0 a1 a2 a3 : Value} (h : Blk T w g [a0, a1, a2, a3]) (v0 v1 v2 v3 : Value) : Blk T (set4 w g v0 v1 v2 v3) g [v0, v1, v2, v3] := (((h.set 0 v0).set 1 v1).set 2 v2).set 3 v3
theorem set4_but (w : World) (g : Nat) (v0 v1 v2 v3 : Value) : But [g] w (set4 w g v0 v1 v2 v3) := setD (setD (setD (setD (But.refl [g] w) 0 v0) 1 v1) 2 v2) 3 v3

end Ms
end Go.Proofs.YticncpjpkgdnlaaGreatDoor
