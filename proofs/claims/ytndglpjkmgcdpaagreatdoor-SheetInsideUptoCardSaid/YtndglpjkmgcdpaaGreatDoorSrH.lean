/-
  sheet: what the fields of a part have said: the head in its block; media, end, dispose.
-/
import Derived.Test.YtndglpjkmgcdpaaGreatDoorSrB
import Derived.Test.YtndglpjkmgcdpaaGreatDoorDsB
import Derived.Test.YtndglpjkmgcdpaaGreatDoorMgP
import Derived.Test.YtndglpjkmgcdpaaGreatDoorMgO
set_option linter.unusedVariables false
set_option linter.unusedSimpArgs false
namespace Go.Proofs.YtndglpjkmgcdpaaGreatDoor
open Go.RowKit Go.Shelf
namespace Sr
open Oc Tg Mf

/-- The head lies in the block b. -/
def Hd (w : World) (b : Nat) (x : Pt.P5) (d t : Bool) : Prop := w.heap[b]? = some (.cells #[.string (str x.n), .string (str x.f), .string (str x.m), .string (str x.b), .bool x.h, .bool d, .bool t] 169 (0, 0))
theorem Hd.below {w w' : World} {b : Nat} {x : Pt.P5} {d t : Bool} (h : Hd w b x d t) (bl : Below w.heap.size w w') : Hd w' b x d t := by
  unfold Hd at *
  rw [bl.block b (Array.getElem?_eq_some_iff.1 h).1]
  exact h
theorem Hd.cells {w : World} {b : Nat} {x : Pt.P5} {d t : Bool} (h : Hd w b x d t) : w.cell? ⟨b, 0, none⟩ = some (.string (str x.n)) ∧ w.cell? ⟨b, 1, none⟩ = some (.string (str x.f)) ∧ w.cell? ⟨b, 2, none⟩ = some (.string (str x.m)) ∧ w.cell? ⟨b, 3, none⟩ = some (.string (str x.b)) ∧ w.cell? ⟨b, 4, none⟩ = some (.bool x.h) ∧ w.cell? ⟨b, 5, none⟩ = some (.bool d) ∧ w.cell? ⟨b, 6, none⟩ = some (.bool t) := by
  have : ∀ k : Nat, w.cell? ⟨b, k, none⟩ = #[Value.string (str x.n), .string (str x.f), .string (str x.m), .string (str x.b), .bool x.h, .bool d, .bool t][k]? := fun k => by unfold Hd at h; simp [World.cell?, h]
  exact ⟨by simpa using this 0, by simpa using this 1, by simpa using this 2, by simpa using this 3, by simpa using this 4, by simpa using this 5, by simpa using this 6⟩
theorem Hd.f {w : World} {b : Nat} {x : Pt.P5} {d t : Bool} (h : Hd w b x d t) (k : Nat) : w.frozen? ⟨b, k, none⟩ = false := Lib.frozen_of_heap h k

set_option maxRecDepth 100000 in
theorem end_any (b : Nat) (x : Pt.P5) (d t : Bool) (w : World) (hH : Hd w b x d t) :
    Calls Tryz.prog 134 #[.pointer (some ⟨b, 0, none⟩)] w fun e w' => e = .returned (.int .i64 (if d = true then 0 else 152)) ∧ w' = w := by
  obtain ⟨c0, c1, c2, c3, c4, c5, c6⟩ := hH.cells
  cases d with
  | true =>
    go_enter Tryz.func134, Tryz.ntmps134
    go_wp2
    go_ret
    exact ⟨rfl, rfl⟩
  | false =>
    go_enter Tryz.func134, Tryz.ntmps134
    go_wp2
    go_ret
    exact ⟨rfl, rfl⟩

/-- What media does: the error, the head. -/
def medP (v : List UInt8) (x : Pt.P5) (t : Bool) : Int × Pt.P5 × Bool := if t = true then (152, x, t) else (0, { x with m := v }, true)
set_option maxRecDepth 100000 in
theorem media_any (b : Nat) (x : Pt.P5) (d t : Bool) (v : List UInt8) (w : World) (hH : Hd w b x d t) :
    Calls Tryz.prog 138 #[.pointer (some ⟨b, 0, none⟩), .string (str v)] w fun e w' => e = .returned (.int .i64 (medP v x t).1) ∧ Hd w' b (medP v x t).2.1 d (medP v x t).2.2 ∧ Chg b w w' := by
  obtain ⟨c0, c1, c2, c3, c4, c5, c6⟩ := hH.cells
  have f2 := hH.f 2
  have f6 := hH.f 6
  have HH : Hid (Hd w b x d t) := hH
  have HS : Hid (t = false → Hd ((w.setCell ⟨b, 2, none⟩ (.string (str v))).setCell ⟨b, 6, none⟩ (.bool true)) b { x with m := v } d true) := (fun ht => by
    have z1 := heap_setCell_same w b 2 _ _ (.string (str v)) hH
    have z2 := heap_setCell_same _ b 6 _ _ (.bool true) z1
    unfold Hd
    rw [z2]
    rfl : _ → _)
  have HC : Hid (Chg b w ((w.setCell ⟨b, 2, none⟩ (.string (str v))).setCell ⟨b, 6, none⟩ (.bool true))) := ((Chg.refl b w).set 2 _).set 6 _
  clear hH
  cases t with
  | true =>
    have HQ : Hid (medP v x true = (152, x, true)) := rfl
    generalize medP v x true = R at *
    generalize str v = SV at *
    go_enter Tryz.func138, Tryz.ntmps138
    go_wp2
    go_ret
    rw [HQ.out]
    exact ⟨rfl, HH.out, Chg.refl _ _⟩
  | false =>
    have HQ : Hid (medP v x false = (0, { x with m := v }, true)) := rfl
    have HS2 := HS.out rfl
    have HS3 : Hid (Hd ((w.setCell ⟨b, 2, none⟩ (.string (str v))).setCell ⟨b, 6, none⟩ (.bool true)) b { x with m := v } d true) := HS2
    clear HS HS2
    generalize medP v x false = R at *
    go_enter Tryz.func138, Tryz.ntmps138
    go_wp2
    go_ret
    rw [HQ.out]
    exact ⟨rfl, HS3.out, HC.out⟩

end Sr
end Go.Proofs.YtndglpjkmgcdpaaGreatDoor
