/- Several texts as one. -/
import Derived.Test.YtdbnlpnnfnodnaaGreatDoorMgB
import Derived.Deep.RegionHeld3
import Derived.Test.YtdbnlpnnfnodnaaGreatDoorRows
import Derived.OpenShut
import Derived.SliceStrings
import Derived.Carry
import Derived.ChangeSlices
import Derived.ChangeOld
import Derived.Deep.Strs
/-
  A decoder that is played: the law's walk; what was fed, plain.
-/
set_option linter.unusedVariables false
set_option linter.unusedSimpArgs false
set_option maxRecDepth 100000
namespace Go.Proofs.YtdbnlpnnfnodnaaGreatDoor
open Go.RowKit Go.Shelf
namespace Ck
open Oc Tg _root_.Go.Proofs.YtdbnlpnnfnodnaaGreatDoor.Fd

theorem eat_take : ∀ (l : List UInt8) (s : DS), eat s (l.take (eat s l).1) = eat s l
  | [], s => by simp [eat_nil]
  | c :: l, s => by
    by_cases hm : s.mode = 5
    · rw [eat_over hm, eat_over hm]
    · rw [eat_cons hm]
      simp only [List.take_succ_cons]
      rw [eat_cons hm, eat_take l (bstep s c)]
/-- What was fed to a decoder, and what it has become. -/
structure Fed (m r f : Int) (F : List UInt8) (s : DS) : Prop where
  ok : Ok s F.length
  total : s.total = F.length
  eq : eat (new m r f) F = (F.length, tot s 0)
theorem Fed.start {m r f : Int} (h : Ok (new m r f) 0) : Fed m r f [] (new m r f) := ⟨h, rfl, by rw [eat_nil]; rfl⟩
theorem Fed.both {m r f : Int} {F S : List UInt8} {s : DS} (h : Fed m r f F s) : eat (new m r f) (F ++ S) = (F.length + (eat s S).1, tot (eat s S).2 0) := by
  rw [eat_app, h.eq, eat_tot]
theorem Fed.feed {m r f : Int} {F S : List UInt8} {s : DS} (h : Fed m r f F s) (hm : s.mode ≠ 5) : Fed m r f ((F ++ S).take (F.length + (eat s S).1)) (feedS s S) := by
  have hle := eat_le S s
  have hl : ((F ++ S).take (F.length + (eat s S).1)).length = F.length + (eat s S).1 := by rw [List.length_take, List.length_append]; omega
  have ho := eat_ok S s F.length h.ok
  have htt : (eat s S).2.total = F.length := by
    have e := congrArg Prod.snd (eat_tot S s s.total)
    rw [tot_self] at e
    rw [e]
    exact h.total
  have hf : feedS s S = tot (eat s S).2 ((eat s S).2.total + (eat s S).1) := by unfold feedS; rw [if_neg hm]; rfl
  have e1 := eat_take (F ++ S) (Ck.new m r f)
  rw [h.both] at e1
  refine ⟨?_, ?_, ?_⟩
  · rw [hl, hf, htt]
    exact ⟨ho.mode, ho.most, ho.room, ho.fields, ho.left, ho.pos, ⟨by show (0 : Int) ≤ (F.length : Int) + _; omega, by show (F.length : Int) + _ ≤ ((F.length + _ : Nat) : Int); omega⟩, ho.len, ho.size, ho.bare, ho.over⟩
  · rw [hl, hf, htt]
    show (F.length : Int) + _ = ((F.length + _ : Nat) : Int)
    omega
  · rw [hl]
    rw [e1, hf, tot_tot]
theorem Fed.sees {m r f : Int} {F : List UInt8} {s : DS} (h : Fed m r f F s) {n : Nat} {e : Int} {d : Bool} {b : List UInt8} {t : List Fl} (hs : Sees (eat (Ck.new m r f) F) n e d b t) : n = F.length ∧ e = s.err ∧ d = s.done ∧ b = s.body ∧ t = s.tr := by
  rw [h.eq] at hs
  obtain ⟨h1, h2, h3, h4, h5⟩ := hs
  exact ⟨h1.symm, h2.symm, h3.symm, h4.symm, h5.symm⟩
theorem Fed.sees2 {m r f : Int} {F S : List UInt8} {s : DS} (h : Fed m r f F s) {n : Nat} {e : Int} {d : Bool} {b : List UInt8} {t : List Fl} (hs : Sees (eat (Ck.new m r f) (F ++ S)) n e d b t) : n = F.length + (eat s S).1 ∧ e = (eat s S).2.err ∧ d = (eat s S).2.done := by
  rw [h.both] at hs
  obtain ⟨h1, h2, h3, _, _⟩ := hs
  exact ⟨h1.symm, h2.symm, h3.symm⟩

set_option maxHeartbeats 2000000 in
theorem pwalk_some (D : Nat) (m r f : Int) (hm0 : 0 ≤ m) (hm1 : m ≤ 9223372036854775807) (hr0 : 0 ≤ r) (hr1 : r ≤ 9223372036854775807) (hf0 : 0 ≤ f) (hf1 : f ≤ 9223372036854775807) (F : ByteArray) (hF : F.size ≤ 2000000) (g : Bool) (w : World) :
    Calls Tryz.prog 27 #[.agg #[.pointer (some ⟨D, 0, none⟩), .int .i64 m, .int .i64 r, .int .i64 f, .string F, .bool g]] w fun x w' => ∃ (n : Nat) (e : Int) (d : Bool) (b : ByteArray) (t : List Fl) (v : Value), x = .returned (wkV (n : Int) e d b v) ∧ Sees (eat (new m r f) F.data.toList) n e d b.data.toList t ∧ OwnF 78 w.heap.size v t w' ∧ Below w.heap.size w w' := by
  have HW : Hid (∀ w, Calls Tryz.prog 26 #[.string F, .int .i64 m, .int .i64 r, .int .i64 f] w fun x w' => ∃ (n : Nat) (e : Int) (d : Bool) (b : ByteArray) (t : List Fl) (v : Value), x = .returned (wkV (n : Int) e d b v) ∧ Sees (eat (new m r f) F.data.toList) n e d b.data.toList t ∧ OwnF 78 w.heap.size v t w' ∧ Below w.heap.size w w') := fun w => rWalk_any F hF m r f hm0 hm1 hr0 hr1 hf0 hf1 w
  obtain ⟨w2, hw2⟩ : ∃ w2, w2 = (w.alloc (.cells #[.pointer (some ⟨D, 0, none⟩), .int .i64 m, .int .i64 r, .int .i64 f, .string F, .bool g] 49)).alloc (.cells #[.int .i64 0, .int .i64 0, .bool false, .string ⟨#[]⟩, .slice none 0 0] 74) := ⟨_, rfl⟩
  have hs1 : (w.alloc (.cells #[.pointer (some ⟨D, 0, none⟩), .int .i64 m, .int .i64 r, .int .i64 f, .string F, .bool g] 49)).heap.size = w.heap.size + 1 := by simp
  have W2 : WB w2 (w.heap.size + 1) 0 0 false ⟨#[]⟩ (.slice none 0 0) := by
    rw [hw2, ← hs1]
    exact heap_alloc_new _ _
  have hB2 : Below w.heap.size w w2 := by rw [hw2]; exact ((Below.refl _ w).alloc (Nat.le_refl _) _).alloc (by simp) _
  have R1 : w2.heap[w.heap.size]? = some (.cells #[.pointer (some ⟨D, 0, none⟩), .int .i64 m, .int .i64 r, .int .i64 f, .string F, .bool g] 49 (0, 0)) := by
    have h1 := heap_alloc_new w (.cells #[.pointer (some ⟨D, 0, none⟩), .int .i64 m, .int .i64 r, .int .i64 f, .string F, .bool g] 49)
    rw [hw2]
    exact (But.of_below ((Below.refl _ _).alloc (Nat.le_refl _) _)).heap h1 (fun e => by cases e)
  have k0 : w2.cell? ⟨w.heap.size, 0, none⟩ = some (.pointer (some ⟨D, 0, none⟩)) := by rw [cell_of_row w2 _ _ _ _ _ R1]; rfl
  have k1 : w2.cell? ⟨w.heap.size, 1, none⟩ = some (.int .i64 m) := by rw [cell_of_row w2 _ _ _ _ _ R1]; rfl
  have k2 : w2.cell? ⟨w.heap.size, 2, none⟩ = some (.int .i64 r) := by rw [cell_of_row w2 _ _ _ _ _ R1]; rfl
  have k3 : w2.cell? ⟨w.heap.size, 3, none⟩ = some (.int .i64 f) := by rw [cell_of_row w2 _ _ _ _ _ R1]; rfl
  have k4 : w2.cell? ⟨w.heap.size, 4, none⟩ = some (.string F) := by rw [cell_of_row w2 _ _ _ _ _ R1]; rfl
  have HW2 : Hid (w2 = (w.alloc (.cells #[.pointer (some ⟨D, 0, none⟩), .int .i64 m, .int .i64 r, .int .i64 f, .string F, .bool g] 49)).alloc (.cells #[.int .i64 0, .int .i64 0, .bool false, .string ⟨#[]⟩, .slice none 0 0] 74)) := hw2
  have HWR : Hid (WB w2 (w.heap.size + 1) 0 0 false ⟨#[]⟩ (.slice none 0 0)) := W2
  have HB2 : Hid (Below w.heap.size w w2) := hB2
  clear hw2 hs1 W2 hB2 R1
  go_enter Tryz.func27, Tryz.ntmps27
  go_wp2_with fail
  try rw [← HW2.out]
  try go_wp2_with fail
  refine (HW.out _).mono ?_
  rintro x w6 ⟨n, e, d, b, t, v, rfl, hsee, hown, hb6⟩
  have HS : Hid (Sees (eat (new m r f) F.data.toList) n e d b.data.toList t) := hsee
  have HRr : Hid (WB w6 (w.heap.size + 1) 0 0 false ⟨#[]⟩ (.slice none 0 0)) := HWR.out.bel hb6
  have HB6 : Hid (Below w.heap.size w w6) := bel_trans HB2.out hb6
  have hs2 := HWR.out.lt
  have HO6 : Hid (OwnF 78 (w.heap.size + 2) v t w6) := OwnF.base hown (by omega)
  obtain ⟨va, vc, hv⟩ := OwnF.form hown
  subst hv
  clear hsee hown hb6
  unfold wkV
  obtain ⟨r0, r1, r2, r3, r4⟩ := HRr.out.c
  have f0 := HRr.out.f 0
  have f1 := HRr.out.f 1
  have f2 := HRr.out.f 2
  have f3 := HRr.out.f 3
  have f4 := HRr.out.f 4
  go_wp2
  refine bodyPost_ret (v := .agg #[.int .i64 (n : Int), .int .i64 e, .bool d, .string b, .slice va t.length vc]) (by simp [results, Tryz.results27, go_sem, r0, r1, r2, r3, r4]) rfl ?_
  refine ⟨n, e, d, b, t, .slice va t.length vc, wkV_mk rfl, HS.out, OwnF.base (B := w.heap.size + 2) ?_ (by omega), ?_⟩
  · have h := HO6.out
    repeat (refine OwnF.low ?_ (by simp) _)
    exact h
  · have h := HB6.out
    repeat (refine Below.setCell ?_ (by simp) _)
    exact h

set_option maxHeartbeats 1000000 in
theorem pwalk_nil (m r f : Int) (F : ByteArray) (g : Bool) (w : World) :
    Calls Tryz.prog 27 #[.agg #[.pointer none, .int .i64 m, .int .i64 r, .int .i64 f, .string F, .bool g]] w fun x w' => x = .returned (.agg #[.int .i64 0, .int .i64 0, .bool false, .string ⟨#[]⟩, .slice none 0 0]) ∧ Below w.heap.size w w' := by
  go_enter Tryz.func27, Tryz.ntmps27
  go_wp2
  refine bodyPost_ret (v := .agg #[.int .i64 0, .int .i64 0, .bool false, .string ⟨#[]⟩, .slice none 0 0]) (by simp [results, Tryz.results27, go_sem]) rfl ?_
  refine ⟨rfl, ?_⟩
  repeat first | exact Below.refl _ _ | refine Below.setCell ?_ (by simp) _ | refine Below.alloc ?_ (by simp) _

end Ck
end Go.Proofs.YtdbnlpnnfnodnaaGreatDoor

/-
  A decoder that is played: one step, its contract and what it is told with.
-/
set_option linter.unusedVariables false
set_option linter.unusedSimpArgs false
set_option maxRecDepth 100000
namespace Go.Proofs.YtdbnlpnnfnodnaaGreatDoor
open Go.RowKit Go.Shelf
namespace Ck
open Oc Tg _root_.Go.Proofs.YtdbnlpnnfnodnaaGreatDoor.Fd

/-- A block of one that is played. -/
def PlB (w : World) (b : Nat) (p : Value) (m r f : Int) (F : ByteArray) (g : Bool) : Prop := w.heap[b]? = some (.cells #[p, .int .i64 m, .int .i64 r, .int .i64 f, .string F, .bool g] 49 (0, 0))
theorem PlB.c {w : World} {b : Nat} {p : Value} {m r f : Int} {F : ByteArray} {g : Bool} (h : PlB w b p m r f F g) : w.cell? ⟨b, 0, none⟩ = some p ∧ w.cell? ⟨b, 1, none⟩ = some (.int .i64 m) ∧ w.cell? ⟨b, 2, none⟩ = some (.int .i64 r) ∧ w.cell? ⟨b, 3, none⟩ = some (.int .i64 f) ∧ w.cell? ⟨b, 4, none⟩ = some (.string F) ∧ w.cell? ⟨b, 5, none⟩ = some (.bool g) := by
  refine ⟨?_, ?_, ?_, ?_, ?_, ?_⟩ <;> rw [cell_of_row w b _ _ _ _ h] <;> rfl
theorem PlB.f {w : World} {b : Nat} {p : Value} {m r f : Int} {F : ByteArray} {g : Bool} (h : PlB w b p m r f F g) (i : Nat) : w.frozen? ⟨b, i, none⟩ = false := frozen_of_row w b i _ _ h
theorem PlB.lt {w : World} {b : Nat} {p : Value} {m r f : Int} {F : ByteArray} {g : Bool} (h : PlB w b p m r f F g) : b < w.heap.size := (Array.getElem?_eq_some_iff.1 h).1
theorem PlB.bel {w w' : World} {b : Nat} {p : Value} {m r f : Int} {F : ByteArray} {g : Bool} (h : PlB w b p m r f F g) (hb : Below w.heap.size w w') : PlB w' b p m r f F g := (But.of_below hb).heap h (fun e => by cases e)
theorem PlB.but {w w' : World} {bs : List Nat} {b : Nat} {p : Value} {m r f : Int} {F : ByteArray} {g : Bool} (h : PlB w b p m r f F g) (hb : But bs w w') (hn : b ∉ bs) : PlB w' b p m r f F g := hb.heap h hn
theorem PlB.set4 {w : World} {b : Nat} {p : Value} {m r f : Int} {F : ByteArray} {g : Bool} (h : PlB w b p m r f F g) (x : ByteArray) : PlB (w.setCell ⟨b, 4, none⟩ (.string x)) b p m r f x g := heap_setCell_same w b 4 _ _ _ h
theorem PlB.set5 {w : World} {b : Nat} {p : Value} {m r f : Int} {F : ByteArray} {g : Bool} (h : PlB w b p m r f F g) (x : Bool) : PlB (w.setCell ⟨b, 5, none⟩ (.bool x)) b p m r f F x := heap_setCell_same w b 5 _ _ _ h
theorem PlB.other {w : World} {b : Nat} {p : Value} {m r f : Int} {F : ByteArray} {g : Bool} (h : PlB w b p m r f F g) {a : Addr} (hp : b ≠ a.block) (x : Value) : PlB (w.setCell a x) b p m r f F g := by
  unfold PlB
  rw [heap_setCell_other w a b x hp]
  exact h
/-- A block of a call. -/
def OpB (w : World) (b : Nat) (k : Int) (S : ByteArray) : Prop := w.heap[b]? = some (.cells #[.int .i64 k, .string S] 53 (0, 0))
theorem OpB.c {w : World} {b : Nat} {k : Int} {S : ByteArray} (h : OpB w b k S) : w.cell? ⟨b, 0, none⟩ = some (.int .i64 k) ∧ w.cell? ⟨b, 1, none⟩ = some (.string S) := by
  refine ⟨?_, ?_⟩ <;> rw [cell_of_row w b _ _ _ _ h] <;> rfl
theorem OpB.bel {w w' : World} {b : Nat} {k : Int} {S : ByteArray} (h : OpB w b k S) (hb : Below w.heap.size w w') : OpB w' b k S := (But.of_below hb).heap h (fun e => by cases e)
theorem OpB.but {w w' : World} {bs : List Nat} {b : Nat} {k : Int} {S : ByteArray} (h : OpB w b k S) (hb : But bs w w') (hn : b ∉ bs) : OpB w' b k S := hb.heap h hn

/-- One that is played, with a decoder. -/
structure Play (w : World) (D : Nat) (m r f : Int) (F : ByteArray) (g : Bool) (s : DS) (bs : List Nat) : Prop where
  dec : Dec w D s bs
  fed : Fed m r f F.data.toList s
  gone : g = decide (s.mode = 5)
/-- What a step says of one that has a decoder. -/
def StepP (w : World) (D : Nat) (m r f : Int) (F S : ByteArray) (bs : List Nat) (x : Ending) (w' : World) : Prop :=
  ∃ (F' : ByteArray) (g' : Bool) (s' : DS) (bs' : List Nat), x = .returned (.tuple #[.agg #[.pointer (some ⟨D, 0, none⟩), .int .i64 m, .int .i64 r, .int .i64 f, .string F', .bool g'], .bool true]) ∧ Play w' D m r f F' g' s' bs' ∧ Goes bs w bs' w' ∧ F'.size ≤ F.size + S.size
/-- The three blocks that a step begins with. -/
theorem three_blocks (w : World) (p : Value) (m r f : Int) (F : ByteArray) (g : Bool) (k : Int) (S : ByteArray) :
    PlB (((w.alloc (.cells #[p, .int .i64 m, .int .i64 r, .int .i64 f, .string F, .bool g] 49)).alloc (.cells #[.int .i64 k, .string S] 53)).alloc (.cells #[.pointer none, .int .i64 0, .int .i64 0, .int .i64 0, .string ⟨#[]⟩, .bool false] 49)) w.heap.size p m r f F g ∧
    OpB (((w.alloc (.cells #[p, .int .i64 m, .int .i64 r, .int .i64 f, .string F, .bool g] 49)).alloc (.cells #[.int .i64 k, .string S] 53)).alloc (.cells #[.pointer none, .int .i64 0, .int .i64 0, .int .i64 0, .string ⟨#[]⟩, .bool false] 49)) (w.heap.size + 1) k S ∧
    PlB (((w.alloc (.cells #[p, .int .i64 m, .int .i64 r, .int .i64 f, .string F, .bool g] 49)).alloc (.cells #[.int .i64 k, .string S] 53)).alloc (.cells #[.pointer none, .int .i64 0, .int .i64 0, .int .i64 0, .string ⟨#[]⟩, .bool false] 49)) (w.heap.size + 1 + 1) (.pointer none) 0 0 0 ⟨#[]⟩ false ∧
    Below w.heap.size w (((w.alloc (.cells #[p, .int .i64 m, .int .i64 r, .int .i64 f, .string F, .bool g] 49)).alloc (.cells #[.int .i64 k, .string S] 53)).alloc (.cells #[.pointer none, .int .i64 0, .int .i64 0, .int .i64 0, .string ⟨#[]⟩, .bool false] 49)) := by
  have h1 : PlB (w.alloc (.cells #[p, .int .i64 m, .int .i64 r, .int .i64 f, .string F, .bool g] 49)) w.heap.size p m r f F g := heap_alloc_new w _
  have hs1 : (w.alloc (.cells #[p, .int .i64 m, .int .i64 r, .int .i64 f, .string F, .bool g] 49)).heap.size = w.heap.size + 1 := by simp
  have hb1 : Below w.heap.size w (w.alloc (.cells #[p, .int .i64 m, .int .i64 r, .int .i64 f, .string F, .bool g] 49)) := (Below.refl _ w).alloc (Nat.le_refl _) _
  generalize w.alloc (.cells #[p, .int .i64 m, .int .i64 r, .int .i64 f, .string F, .bool g] 49) = w1 at *
  have h2 : OpB (w1.alloc (.cells #[.int .i64 k, .string S] 53)) w1.heap.size k S := heap_alloc_new w1 _
  have hs2 : (w1.alloc (.cells #[.int .i64 k, .string S] 53)).heap.size = w1.heap.size + 1 := by simp
  have hb2 : Below w1.heap.size w1 (w1.alloc (.cells #[.int .i64 k, .string S] 53)) := (Below.refl _ _).alloc (Nat.le_refl _) _
  have h12 := h1.bel hb2
  generalize w1.alloc (.cells #[.int .i64 k, .string S] 53) = w2 at *
  have h3 : PlB (w2.alloc (.cells #[.pointer none, .int .i64 0, .int .i64 0, .int .i64 0, .string ⟨#[]⟩, .bool false] 49)) w2.heap.size (.pointer none) 0 0 0 ⟨#[]⟩ false := heap_alloc_new w2 _
  have hb3 : Below w2.heap.size w2 (w2.alloc (.cells #[.pointer none, .int .i64 0, .int .i64 0, .int .i64 0, .string ⟨#[]⟩, .bool false] 49)) := (Below.refl _ _).alloc (Nat.le_refl _) _
  refine ⟨h12.bel hb3, ?_, ?_, bel_trans (bel_trans hb1 hb2) hb3⟩
  · rw [← hs1]; exact h2.bel hb3
  · rw [← hs1, ← hs2]; exact h3

theorem Goes.high {bs bs' : List Nat} {w w' : World} (h : Goes bs w bs' w') {p : Addr} (hp : w.heap.size ≤ p.block) (v : Value) : Goes bs w bs' (w'.setCell p v) := by
  refine ⟨⟨h.but.os, h.but.tape, h.but.output, by simpa [World.setCell] using h.but.size, fun k hk hn => ?_⟩, h.sub⟩
  rw [heap_setCell_other w' p k v (by omega)]
  exact h.but.block k hk hn
theorem Goes.then {bs bs' : List Nat} {w w' w'' : World} (h : Goes bs w bs' w') (hb : Below w'.heap.size w' w'') : Goes bs w bs' w'' := h.trans (Goes.below hb)
theorem Goes.drew {bs bs' : List Nat} {w w' : World} (h : Goes bs w bs' w') : Goes bs w bs' w'.drew := ⟨h.but.drew, h.sub⟩
theorem Dec.far {w : World} {D : Nat} {s : DS} {bs : List Nat} (h : Dec w D s bs) {p : Addr} (hp : p.block ∉ bs) (v : Value) : Dec (w.setCell p v) D s bs := h.but ((But.refl [p.block] w).setCell (by simp) v) (fun x hx e => by simp at e; subst e; exact hp hx)
theorem Dec.drew {w : World} {D : Nat} {s : DS} {bs : List Nat} (h : Dec w D s bs) : Dec w.drew D s bs := h.below ((Below.refl _ _).drew)

def kindN (k n : Int) : Nat := ((k.tmod n + n) % n).toNat
theorem kindN_lt (k : Int) : kindN k 6 < 6 := by
  have h3 : 0 ≤ (k.tmod 6 + 6) % 6 := Int.emod_nonneg _ (by omega)
  have h4 : (k.tmod 6 + 6) % 6 < 6 := Int.emod_lt_of_pos _ (by omega)
  unfold kindN
  omega
set_option maxHeartbeats 1000000 in
theorem kind_is (w : World) (k n : Int) (hk0 : -9223372036854775808 ≤ k) (hk1 : k ≤ 9223372036854775807) (hn0 : 1 ≤ n) (hn1 : n ≤ 4611686018427387903) : Calls Tryz.prog 28 #[.int .i64 k, .int .i64 n] w fun e w' => e = .returned (.int .i64 ((kindN k n : Nat) : Int)) ∧ Below w.heap.size w w' := by
  have h1 : -n < k.tmod n := by
    have := Int.lt_tmod_of_pos k (show 0 < n by omega)
    omega
  have h2 : k.tmod n < n := Int.tmod_lt_of_pos k (by omega)
  have h3 : 0 ≤ (k.tmod n + n) % n := Int.emod_nonneg _ (by omega)
  have h4 : (k.tmod n + n) % n < n := Int.emod_lt_of_pos _ (by omega)
  have hz : (n == 0) = false := by simp; omega
  have HK : Hid (((kindN k n : Nat) : Int) = (k.tmod n + n) % n) := (by unfold kindN; rw [Int.toNat_of_nonneg h3] : ((kindN k n : Nat) : Int) = (k.tmod n + n) % n)
  go_enter Tryz.func28, Tryz.ntmps28
  go_wp2
  go_ret
  exact ⟨ret_int HK.out.symm, Below.refl _ _⟩

end Ck
end Go.Proofs.YtdbnlpnnfnodnaaGreatDoor

/-
  A decoder that is played: one step, by its kind.
-/
set_option linter.unusedVariables false
set_option linter.unusedSimpArgs false
set_option maxRecDepth 100000
namespace Go.Proofs.YtdbnlpnnfnodnaaGreatDoor
open Go.RowKit Go.Shelf
namespace Ck
open Oc Tg _root_.Go.Proofs.YtdbnlpnnfnodnaaGreatDoor.Fd

set_option maxHeartbeats 4000000 in
theorem step_0 {w0 w : World} {D : Nat} {m r f : Int} {F : ByteArray} {g : Bool} {s : DS} {bs : List Nat} (hbase : Base w0 w bs) (hpl : Play w D m r f F g s bs) (hm0 : 0 ≤ m) (hm1 : m ≤ 9223372036854775807) (hr0 : 0 ≤ r) (hr1 : r ≤ 9223372036854775807) (hf0 : 0 ≤ f) (hf1 : f ≤ 9223372036854775807) (k : Int) (hk0 : -9223372036854775808 ≤ k) (hk1 : k ≤ 9223372036854775807) (S : ByteArray) (hsF : F.size + S.size ≤ 1048576) (hkj : kindN k 6 = 0) :
    Calls Tryz.prog 16 #[.agg #[.pointer (some ⟨D, 0, none⟩), .int .i64 m, .int .i64 r, .int .i64 f, .string F, .bool g], .agg #[.int .i64 k, .string S]] w (StepP w D m r f F S bs) := by
  have HKJ : Hid (kindN k 6 = 0) := hkj
  clear hkj
  obtain ⟨W1, W2, W3, hB⟩ := three_blocks w (.pointer (some ⟨D, 0, none⟩)) m r f F g k S
  obtain ⟨w2, hw2⟩ : ∃ w2, w2 = ((w.alloc (.cells #[.pointer (some ⟨D, 0, none⟩), .int .i64 m, .int .i64 r, .int .i64 f, .string F, .bool g] 49)).alloc (.cells #[.int .i64 k, .string S] 53)).alloc (.cells #[.pointer none, .int .i64 0, .int .i64 0, .int .i64 0, .string ⟨#[]⟩, .bool false] 49) := ⟨_, rfl⟩
  rw [← hw2] at W1 W2 W3 hB
  have HW2 : Hid (w2 = ((w.alloc (.cells #[.pointer (some ⟨D, 0, none⟩), .int .i64 m, .int .i64 r, .int .i64 f, .string F, .bool g] 49)).alloc (.cells #[.int .i64 k, .string S] 53)).alloc (.cells #[.pointer none, .int .i64 0, .int .i64 0, .int .i64 0, .string ⟨#[]⟩, .bool false] 49)) := hw2
  have HB2 : Hid (Below w.heap.size w w2) := hB
  have HP2 : Hid (PlB w2 w.heap.size (.pointer (some ⟨D, 0, none⟩)) m r f F g) := W1
  have HO2 : Hid (OpB w2 (w.heap.size + 1) k S) := W2
  have HR2 : Hid (PlB w2 (w.heap.size + 1 + 1) (.pointer none) 0 0 0 ⟨#[]⟩ false) := W3
  have HWk : Hid (∀ w, Calls Tryz.prog 27 #[.agg #[.pointer (some ⟨D, 0, none⟩), .int .i64 m, .int .i64 r, .int .i64 f, .string F, .bool g]] w fun x w' => ∃ (n : Nat) (e : Int) (d : Bool) (b : ByteArray) (t : List Fl) (v : Value), x = .returned (wkV (n : Int) e d b v) ∧ Sees (eat (new m r f) F.data.toList) n e d b.data.toList t ∧ OwnF 78 w.heap.size v t w' ∧ Below w.heap.size w w') := fun w => pwalk_some D m r f hm0 hm1 hr0 hr1 hf0 hf1 F (by omega) g w
  have HPl : Hid (Play w D m r f F g s bs) := hpl
  have HBs : Hid (Base w0 w bs) := hbase
  obtain ⟨p0, p1, p2, p3, p4, p5⟩ := W1.c
  obtain ⟨o0, o1⟩ := W2.c
  have HLt : Hid (∀ x, x ∈ bs → x < w.heap.size) := hpl.dec.lt
  have hszF : s.tr.length ≤ F.size := by have := hpl.fed.ok.len; rw [size_list] at this; omega
  clear hw2 hB W1 W2 W3 hpl hbase
  go_enter Tryz.func16, Tryz.ntmps16
  go_wp2_with fail
  try rw [← HW2.out]
  try go_wp2_with fail
  refine (HWk.out _).mono ?_
  rintro x w3 ⟨n, e, d, b, t, v, rfl, hsee, hown, hb3⟩
  rw [← size_list F] at hsF
  obtain ⟨rfl, rfl, rfl, hbb, rfl⟩ := HPl.out.fed.sees hsee
  obtain ⟨va, vc, hv⟩ := OwnF.form hown
  subst hv
  rw [size_list] at hsF ⊢
  have HP3 : Hid (PlB w3 w.heap.size (.pointer (some ⟨D, 0, none⟩)) m r f F g) := HP2.out.bel hb3
  have HO3 : Hid (OpB w3 (w.heap.size + 1) k S) := HO2.out.bel hb3
  have HR3 : Hid (PlB w3 (w.heap.size + 1 + 1) (.pointer none) 0 0 0 ⟨#[]⟩ false) := HR2.out.bel hb3
  have HB3 : Hid (Below w.heap.size w w3) := bel_trans HB2.out hb3
  have HT3 : Hid (OwnF 78 w2.heap.size (.slice va s.tr.length vc) s.tr w3) := hown
  have HBB : Hid (b = str s.body) := (eq_list (by rw [str_list]; exact hbb) : b = str s.body)
  clear hsee hown hb3 hbb p0 p1 p2 p3 p4 p5 o0 o1
  unfold wkV
  obtain ⟨w4, hw4⟩ : ∃ w4, w4 = w3.alloc (.cells #[.int .i64 (F.size : Int), .int .i64 s.err, .bool s.done, .string b, .slice va s.tr.length vc] 74) := ⟨_, rfl⟩
  have hA4 : Below w3.heap.size w3 w4 := by rw [hw4]; exact (Below.refl _ _).alloc (Nat.le_refl _) _
  have HX4 : Hid (WB w4 w3.heap.size (F.size : Int) s.err s.done b (.slice va s.tr.length vc)) := (by rw [hw4]; exact heap_alloc_new _ _ : WB w4 w3.heap.size (F.size : Int) s.err s.done b (.slice va s.tr.length vc))
  have HW4 : Hid (w4 = w3.alloc (.cells #[.int .i64 (F.size : Int), .int .i64 s.err, .bool s.done, .string b, .slice va s.tr.length vc] 74)) := hw4
  have HP4 : Hid (PlB w4 w.heap.size (.pointer (some ⟨D, 0, none⟩)) m r f F g) := HP3.out.bel hA4
  have HO4 : Hid (OpB w4 (w.heap.size + 1) k S) := HO3.out.bel hA4
  have HR4 : Hid (PlB w4 (w.heap.size + 1 + 1) (.pointer none) 0 0 0 ⟨#[]⟩ false) := HR3.out.bel hA4
  have HB4 : Hid (Below w.heap.size w w4) := bel_trans HB3.out hA4
  have HT4 : Hid (OwnF 78 w2.heap.size (.slice va s.tr.length vc) s.tr w4) := HT3.out.below hA4
  obtain ⟨o0, o1⟩ := HO3.out.c
  have hlt31 : w.heap.size + 1 < w3.heap.size := by have := HR3.out.lt; omega
  have hne3 : w.heap.size + 1 ≠ w3.heap.size := by have := HR3.out.lt; omega
  have hne4 : w3.heap.size ≠ w.heap.size + 1 := by have := HR3.out.lt; omega
  have hlt3 := HR3.out.lt
  clear hw4 hA4
  go_wp2_with fail
  rw [← HW4.out]
  refine (kind_is w4 k 6 hk0 hk1 (by omega) (by omega)).mono ?_
  rintro x w5 ⟨rfl, hb5⟩
  rw [HKJ.out]
  have HX5 : Hid (WB w5 w3.heap.size (F.size : Int) s.err s.done b (.slice va s.tr.length vc)) := HX4.out.bel hb5
  have HP5 : Hid (PlB w5 w.heap.size (.pointer (some ⟨D, 0, none⟩)) m r f F g) := HP4.out.bel hb5
  have HO5 : Hid (OpB w5 (w.heap.size + 1) k S) := HO4.out.bel hb5
  have HR5 : Hid (PlB w5 (w.heap.size + 1 + 1) (.pointer none) 0 0 0 ⟨#[]⟩ false) := HR4.out.bel hb5
  have HB5 : Hid (Below w.heap.size w w5) := bel_trans HB4.out hb5
  have HT5 : Hid (OwnF 78 w2.heap.size (.slice va s.tr.length vc) s.tr w5) := HT4.out.below hb5
  have HD5 : Hid (Dec w5 D s bs) := HPl.out.dec.below HB5.out
  obtain ⟨x0, x1, x2, x3, x4⟩ := HX5.out.c
  obtain ⟨p0, p1, p2, p3, p4, p5⟩ := HP5.out.c
  obtain ⟨r0, r1, r2, r3, r4, r5⟩ := HR5.out.c
  have f0 := HR5.out.f 0
  have f1 := HR5.out.f 1
  have f2 := HR5.out.f 2
  have f3 := HR5.out.f 3
  have f4 := HR5.out.f 4
  have f5 := HR5.out.f 5
  have hsz5 := HR5.out.lt
  have hs5x := HX5.out.lt
  clear hb5 o0 o1 hne3 hne4 hlt31
  have HFd : Hid (Calls Tryz.prog 22 #[.pointer (some ⟨D, 0, none⟩), .string S] w5 fun ex w' => ex = .returned (.tuple #[.int .i64 (feedN s S.data.toList), .int .i64 (feedE s S.data.toList)]) ∧ ∃ bs', Dec w' D (feedS s S.data.toList) bs' ∧ Goes bs w5 bs' w') := Feed_any (HBs.out.below HB5.out) HD5.out HPl.out.fed.ok S (by rw [size_list]; omega)
  obtain ⟨o0, o1⟩ := HO5.out.c
  have hnot : ∀ x, w.heap.size ≤ x → x ∉ bs := fun x h1 e => by have := HLt.out x e; omega
  by_cases hmo : s.mode = 5
  · have hg : g = true := by rw [HPl.out.gone]; simp [hmo]
    have eN : feedN s S.data.toList = 0 := by unfold feedN; rw [if_pos hmo]
    have eE : feedE s S.data.toList = 103 := by unfold feedE; rw [if_pos hmo]
    have eS : feedS s S.data.toList = s := by unfold feedS; rw [if_pos hmo]
    rw [eN, eE, eS] at HFd
    clear eN eE eS hmo
    subst hg
    go_wp2_with fail
    refine HFd.out.mono ?_
    rintro x w6 ⟨rfl, bs6, hd6, hg6⟩
    have HD6 : Hid (Dec w6 D s bs6) := hd6
    have HG6 : Hid (Goes bs w bs6 w6) := (Goes.below HB5.out).trans hg6
    have hN4b : w.heap.size + 1 + 1 ∉ bs6 := fun e => by
      rcases hg6.sub _ e with h | h
      · exact hnot _ (by omega) h
      · omega
    have HP6 : Hid (PlB w6 w.heap.size (.pointer (some ⟨D, 0, none⟩)) m r f F true) := HP5.out.but hg6.but (hnot _ (Nat.le_refl _))
    have HR6 : Hid (PlB w6 (w.heap.size + 1 + 1) (.pointer none) 0 0 0 ⟨#[]⟩ false) := HR5.out.but hg6.but (hnot _ (by omega))
    clear hd6 hg6 r0 r1 r2 r3 r4 r5 f0 f1 f2 f3 f4 f5 p0 p1 p2 p3 p4 p5 x0 x1 x2 x3 x4 o0 o1
    obtain ⟨p0, p1, p2, p3, p4, p5⟩ := HP6.out.c
    obtain ⟨r0, r1, r2, r3, r4, r5⟩ := HR6.out.c
    have f0 := HR6.out.f 0
    have f1 := HR6.out.f 1
    have f2 := HR6.out.f 2
    have f3 := HR6.out.f 3
    have f4 := HR6.out.f 4
    have f5 := HR6.out.f 5
    go_wp2
    refine bodyPost_ret (v := .tuple #[.agg #[.pointer (some ⟨D, 0, none⟩), .int .i64 m, .int .i64 r, .int .i64 f, .string F, .bool true], .bool true]) (by simp [results, Tryz.results16, go_sem, r0, r1, r2, r3, r4, r5]) rfl ?_
    refine ⟨F, true, s, bs6, rfl, ⟨?_, HPl.out.fed, HPl.out.gone⟩, ?_, Nat.le_add_right _ _⟩
    · repeat (with_reducible refine Dec.far ?_ hN4b _)
      exact HD6.out
    · repeat (with_reducible refine Goes.high ?_ (by show w.heap.size ≤ w.heap.size + 1 + 1; omega) _)
      exact HG6.out
  · have hg : g = false := by rw [HPl.out.gone]; simp [hmo]
    have eN : feedN s S.data.toList = ((eat s S.data.toList).1 : Int) := by unfold feedN; rw [if_neg hmo]
    have eE : feedE s S.data.toList = (eat s S.data.toList).2.err := by unfold feedE; rw [if_neg hmo]
    have hfe := HPl.out.fed.feed (S := S.data.toList) hmo
    have hle := eat_le S.data.toList s
    rw [size_list] at hle hfe
    have hov : (feedS s S.data.toList).mode = 5 ↔ ((eat s S.data.toList).2.done = true ∨ (eat s S.data.toList).2.err ≠ 0) := by
      have h := hfe.ok.over
      have e1 : (feedS s S.data.toList).done = (eat s S.data.toList).2.done := by unfold feedS; rw [if_neg hmo]
      have e2 : (feedS s S.data.toList).err = (eat s S.data.toList).2.err := by unfold feedS; rw [if_neg hmo]
      rw [e1, e2] at h
      exact h
    obtain ⟨Z, hZ⟩ : ∃ Z, Z = F ++ S := ⟨_, rfl⟩
    have hZs : Z.size = F.size + S.size := by rw [hZ]; simp
    have HS2 : Hid (∀ n e d b t, Sees (eat (new m r f) Z.data.toList) n e d b t → n = F.size + (eat s S.data.toList).1 ∧ e = (eat s S.data.toList).2.err ∧ d = (eat s S.data.toList).2.done) := fun n e d b t h => by
      rw [hZ, app_list] at h
      have h2 := HPl.out.fed.sees2 h
      rw [size_list] at h2
      exact h2
    rw [← app_list, ← hZ] at hfe
    rw [eN, eE] at HFd
    have HZ : Hid (Z = F ++ S) := hZ
    have HOv : Hid ((feedS s S.data.toList).mode = 5 ↔ ((eat s S.data.toList).2.done = true ∨ (eat s S.data.toList).2.err ≠ 0)) := hov
    obtain ⟨N2, hN2⟩ : ∃ N2, N2 = F.size + (eat s S.data.toList).1 := ⟨_, rfl⟩
    rw [← hN2] at hfe HS2
    have HN2 : Hid (N2 = F.size + (eat s S.data.toList).1) := hN2
    have hN2Z : N2 ≤ Z.size := by omega
    clear hN2
    have HFe0 : Hid (Fed m r f (Z.data.toList.take N2) (feedS s S.data.toList)) := hfe
    clear eN eE hfe hov hmo hZ
    generalize feedS s S.data.toList = s' at *
    generalize hc : (eat s S.data.toList).1 = c at *
    generalize he : (eat s S.data.toList).2.err = er at *
    generalize hd : (eat s S.data.toList).2.done = dn at *
    have HFe : Hid (Fed m r f (Z.extract 0 N2).data.toList s') := (by rw [Lib.extract_data]; simpa using HFe0.out : Fed m r f (Z.extract 0 N2).data.toList s')
    have HLe : Hid ((Z.extract 0 N2).size ≤ F.size + S.size) := (by simp; omega : (Z.extract 0 N2).size ≤ F.size + S.size)
    clear hc he hd HFe0
    subst hg
    have hcat : ¬ (9223372036854775807 < F.size + S.size) := by omega
    go_wp2_with fail
    refine HFd.out.mono ?_
    rintro x w6 ⟨rfl, bs6, hd6, hg6⟩
    have HD6 : Hid (Dec w6 D s' bs6) := hd6
    have HG6 : Hid (Goes bs w bs6 w6) := (Goes.below HB5.out).trans hg6
    have hN4b : w.heap.size + 1 + 1 ∉ bs6 := fun e => by
      rcases hg6.sub _ e with h | h
      · exact hnot _ (by omega) h
      · omega
    have hN2b : w.heap.size ∉ bs6 := fun e => by
      rcases hg6.sub _ e with h | h
      · exact hnot _ (by omega) h
      · omega
    have HP6 : Hid (PlB w6 w.heap.size (.pointer (some ⟨D, 0, none⟩)) m r f F false) := HP5.out.but hg6.but (hnot _ (Nat.le_refl _))
    have HO6 : Hid (OpB w6 (w.heap.size + 1) k S) := HO5.out.but hg6.but (hnot _ (by omega))
    have HR6 : Hid (PlB w6 (w.heap.size + 1 + 1) (.pointer none) 0 0 0 ⟨#[]⟩ false) := HR5.out.but hg6.but (hnot _ (by omega))
    clear hd6 hg6 r0 r1 r2 r3 r4 r5 f0 f1 f2 f3 f4 f5 p0 p1 p2 p3 p4 p5 x0 x1 x2 x3 x4 o0 o1
    obtain ⟨p0, p1, p2, p3, p4, p5⟩ := HP6.out.c
    obtain ⟨o0, o1⟩ := HO6.out.c
    have pf4 := HP6.out.f 4
    obtain ⟨w7, hw7⟩ : ∃ w7, w7 = w6.setCell ⟨w.heap.size, 4, none⟩ (.string Z) := ⟨_, rfl⟩
    have HP7 : Hid (PlB w7 w.heap.size (.pointer (some ⟨D, 0, none⟩)) m r f Z false) := (by rw [hw7]; exact HP6.out.set4 _ : PlB w7 w.heap.size (.pointer (some ⟨D, 0, none⟩)) m r f Z false)
    have HR7 : Hid (PlB w7 (w.heap.size + 1 + 1) (.pointer none) 0 0 0 ⟨#[]⟩ false) := (by rw [hw7]; exact HR6.out.other (by show w.heap.size + 1 + 1 ≠ w.heap.size; omega) _ : PlB w7 (w.heap.size + 1 + 1) (.pointer none) 0 0 0 ⟨#[]⟩ false)
    have HD7 : Hid (Dec w7 D s' bs6) := (by rw [hw7]; exact HD6.out.far hN2b _ : Dec w7 D s' bs6)
    have HG7 : Hid (Goes bs w bs6 w7) := (by rw [hw7]; exact HG6.out.high (Nat.le_refl _) _ : Goes bs w bs6 w7)
    have HW7 : Hid (w7 = w6.setCell ⟨w.heap.size, 4, none⟩ (.string (F ++ S))) := (by rw [hw7, HZ.out] : w7 = w6.setCell ⟨w.heap.size, 4, none⟩ (.string (F ++ S)))
    have HWk7 : Hid (∀ w, Calls Tryz.prog 27 #[.agg #[.pointer (some ⟨D, 0, none⟩), .int .i64 m, .int .i64 r, .int .i64 f, .string Z, .bool false]] w fun x w' => ∃ (n : Nat) (e : Int) (d : Bool) (b : ByteArray) (t : List Fl) (v : Value), x = .returned (wkV (n : Int) e d b v) ∧ Sees (eat (new m r f) Z.data.toList) n e d b.data.toList t ∧ OwnF 78 w.heap.size v t w' ∧ Below w.heap.size w w') := fun w => pwalk_some D m r f hm0 hm1 hr0 hr1 hf0 hf1 Z (by omega) false w
    clear hw7
    go_wp2_with fail
    rw [← HW7.out, ← HZ.out]
    refine (HWk7.out _).mono ?_
    rintro x w8 ⟨n2, e2, d2, b2, t2, v2, rfl, hsee, hown, hb8⟩
    obtain ⟨hn2, he2, hd2⟩ := HS2.out _ _ _ _ _ hsee
    subst he2 hd2
    rw [hn2]
    obtain ⟨va2, vc2, hv⟩ := OwnF.form hown
    subst hv
    have HP8 : Hid (PlB w8 w.heap.size (.pointer (some ⟨D, 0, none⟩)) m r f Z false) := HP7.out.bel hb8
    have HR8 : Hid (PlB w8 (w.heap.size + 1 + 1) (.pointer none) 0 0 0 ⟨#[]⟩ false) := HR7.out.bel hb8
    have HD8 : Hid (Dec w8 D s' bs6) := HD7.out.below hb8
    have HG8 : Hid (Goes bs w bs6 w8) := HG7.out.then hb8
    have hl8a := HP8.out.lt
    have hl8 := HR8.out.lt
    clear hsee hown hb8 hn2 p0 p1 p2 p3 p4 p5 o0 o1 pf4
    obtain ⟨p0, p1, p2, p3, p4, p5⟩ := HP8.out.c
    have pf4 := HP8.out.f 4
    have pf5 := HP8.out.f 5
    unfold wkV
    cases d2 with
    | true =>
      have HGo : Hid (true = decide (s'.mode = 5)) := (by rw [eq_comm, decide_eq_true_iff]; exact HOv.out.2 (.inl rfl) : true = decide (s'.mode = 5))
      obtain ⟨wb, hwb⟩ : ∃ wb, wb = (w8.setCell ⟨w.heap.size, 4, none⟩ (.string (Z.extract 0 N2))).setCell ⟨w.heap.size, 5, none⟩ (.bool true) := ⟨_, rfl⟩
      have hsb : wb.heap.size = w8.heap.size := by rw [hwb]; simp [World.setCell]
      have hPb : PlB wb w.heap.size (.pointer (some ⟨D, 0, none⟩)) m r f (Z.extract 0 N2) true := by rw [hwb]; exact (HP8.out.set4 _).set5 _
      have hRb : PlB wb (w.heap.size + 1 + 1) (.pointer none) 0 0 0 ⟨#[]⟩ false := by rw [hwb]; exact (HR8.out.other (by show w.heap.size + 1 + 1 ≠ w.heap.size; omega) _).other (by show w.heap.size + 1 + 1 ≠ w.heap.size; omega) _
      have hDb : Dec wb D s' bs6 := by rw [hwb]; exact (HD8.out.far hN2b _).far hN2b _
      have hGb : Goes bs w bs6 wb := by rw [hwb]; exact (HG8.out.high (Nat.le_refl _) _).high (Nat.le_refl _) _
      obtain ⟨w9, hw9⟩ : ∃ w9, w9 = wb.alloc (.cells #[.int .i64 (N2 : Int), .int .i64 e2, .bool true, .string b2, .slice va2 t2.length vc2] 74) := ⟨_, rfl⟩
      have hba : Below wb.heap.size wb w9 := by rw [hw9]; exact (Below.refl _ _).alloc (Nat.le_refl _) _
      have HX9 : Hid (WB w9 w8.heap.size (N2 : Int) e2 true b2 (.slice va2 t2.length vc2)) := (by rw [hw9, ← hsb]; exact heap_alloc_new _ _ : WB w9 w8.heap.size (N2 : Int) e2 true b2 (.slice va2 t2.length vc2))
      have HP9 : Hid (PlB w9 w.heap.size (.pointer (some ⟨D, 0, none⟩)) m r f (Z.extract 0 N2) true) := hPb.bel hba
      have HR9 : Hid (PlB w9 (w.heap.size + 1 + 1) (.pointer none) 0 0 0 ⟨#[]⟩ false) := hRb.bel hba
      have HD9 : Hid (Dec w9 D s' bs6) := hDb.below hba
      have HG9 : Hid (Goes bs w bs6 w9) := hGb.then hba
      have HW9 : Hid (w9 = ((w8.setCell ⟨w.heap.size, 4, none⟩ (.string (Z.extract 0 N2))).setCell ⟨w.heap.size, 5, none⟩ (.bool true)).alloc (.cells #[.int .i64 (N2 : Int), .int .i64 e2, .bool true, .string b2, .slice va2 t2.length vc2] 74)) := (by rw [hw9, hwb] : w9 = ((w8.setCell ⟨w.heap.size, 4, none⟩ (.string (Z.extract 0 N2))).setCell ⟨w.heap.size, 5, none⟩ (.bool true)).alloc (.cells #[.int .i64 (N2 : Int), .int .i64 e2, .bool true, .string b2, .slice va2 t2.length vc2] 74))
      clear hwb hsb hPb hRb hDb hGb hw9 hba
      go_wp2_with fail
      rw [← HW9.out]
      obtain ⟨q0, q1, q2, q3, q4, q5⟩ := HP9.out.c
      obtain ⟨z0, z1, z2, z3, z4⟩ := HX9.out.c
      obtain ⟨r0, r1, r2, r3, r4, r5⟩ := HR9.out.c
      have f0 := HR9.out.f 0
      have f1 := HR9.out.f 1
      have f2 := HR9.out.f 2
      have f3 := HR9.out.f 3
      have f4 := HR9.out.f 4
      have f5 := HR9.out.f 5
      have HS9 : Hid (w9.cell? ⟨w.heap.size, 0, none⟩ = some (.pointer (some ⟨D, 0, none⟩)) ∧ w9.cell? ⟨w.heap.size, 1, none⟩ = some (.int .i64 m) ∧ w9.cell? ⟨w.heap.size, 2, none⟩ = some (.int .i64 r) ∧ w9.cell? ⟨w.heap.size, 3, none⟩ = some (.int .i64 f) ∧ w9.cell? ⟨w.heap.size, 4, none⟩ = some (.string (Z.extract 0 N2)) ∧ w9.cell? ⟨w.heap.size, 5, none⟩ = some (.bool true) ∧ w9.cell? ⟨w8.heap.size, 0, none⟩ = some (.int .i64 (N2 : Int)) ∧ w9.cell? ⟨w8.heap.size, 1, none⟩ = some (.int .i64 e2)) := (⟨q0, q1, q2, q3, q4, q5, z0, z1⟩ : w9.cell? ⟨w.heap.size, 0, none⟩ = some (.pointer (some ⟨D, 0, none⟩)) ∧ w9.cell? ⟨w.heap.size, 1, none⟩ = some (.int .i64 m) ∧ w9.cell? ⟨w.heap.size, 2, none⟩ = some (.int .i64 r) ∧ w9.cell? ⟨w.heap.size, 3, none⟩ = some (.int .i64 f) ∧ w9.cell? ⟨w.heap.size, 4, none⟩ = some (.string (Z.extract 0 N2)) ∧ w9.cell? ⟨w.heap.size, 5, none⟩ = some (.bool true) ∧ w9.cell? ⟨w8.heap.size, 0, none⟩ = some (.int .i64 (N2 : Int)) ∧ w9.cell? ⟨w8.heap.size, 1, none⟩ = some (.int .i64 e2))
      have HKd : Hid (∀ W : World, (W.cell? ⟨w.heap.size, 0, none⟩ = some (.pointer (some ⟨D, 0, none⟩)) ∧ W.cell? ⟨w.heap.size, 1, none⟩ = some (.int .i64 m) ∧ W.cell? ⟨w.heap.size, 2, none⟩ = some (.int .i64 r) ∧ W.cell? ⟨w.heap.size, 3, none⟩ = some (.int .i64 f) ∧ W.cell? ⟨w.heap.size, 4, none⟩ = some (.string (Z.extract 0 N2)) ∧ W.cell? ⟨w.heap.size, 5, none⟩ = some (.bool true) ∧ W.cell? ⟨w8.heap.size, 0, none⟩ = some (.int .i64 (N2 : Int)) ∧ W.cell? ⟨w8.heap.size, 1, none⟩ = some (.int .i64 e2)) → (W.drew.cell? ⟨w.heap.size, 0, none⟩ = some (.pointer (some ⟨D, 0, none⟩)) ∧ W.drew.cell? ⟨w.heap.size, 1, none⟩ = some (.int .i64 m) ∧ W.drew.cell? ⟨w.heap.size, 2, none⟩ = some (.int .i64 r) ∧ W.drew.cell? ⟨w.heap.size, 3, none⟩ = some (.int .i64 f) ∧ W.drew.cell? ⟨w.heap.size, 4, none⟩ = some (.string (Z.extract 0 N2)) ∧ W.drew.cell? ⟨w.heap.size, 5, none⟩ = some (.bool true) ∧ W.drew.cell? ⟨w8.heap.size, 0, none⟩ = some (.int .i64 (N2 : Int)) ∧ W.drew.cell? ⟨w8.heap.size, 1, none⟩ = some (.int .i64 e2))) := fun W h => h
      have HKs : Hid (∀ (W : World) (i : Nat) (v : Value), (W.cell? ⟨w.heap.size, 0, none⟩ = some (.pointer (some ⟨D, 0, none⟩)) ∧ W.cell? ⟨w.heap.size, 1, none⟩ = some (.int .i64 m) ∧ W.cell? ⟨w.heap.size, 2, none⟩ = some (.int .i64 r) ∧ W.cell? ⟨w.heap.size, 3, none⟩ = some (.int .i64 f) ∧ W.cell? ⟨w.heap.size, 4, none⟩ = some (.string (Z.extract 0 N2)) ∧ W.cell? ⟨w.heap.size, 5, none⟩ = some (.bool true) ∧ W.cell? ⟨w8.heap.size, 0, none⟩ = some (.int .i64 (N2 : Int)) ∧ W.cell? ⟨w8.heap.size, 1, none⟩ = some (.int .i64 e2)) → ((W.setCell ⟨w.heap.size + 1 + 1, i, none⟩ v).cell? ⟨w.heap.size, 0, none⟩ = some (.pointer (some ⟨D, 0, none⟩)) ∧ (W.setCell ⟨w.heap.size + 1 + 1, i, none⟩ v).cell? ⟨w.heap.size, 1, none⟩ = some (.int .i64 m) ∧ (W.setCell ⟨w.heap.size + 1 + 1, i, none⟩ v).cell? ⟨w.heap.size, 2, none⟩ = some (.int .i64 r) ∧ (W.setCell ⟨w.heap.size + 1 + 1, i, none⟩ v).cell? ⟨w.heap.size, 3, none⟩ = some (.int .i64 f) ∧ (W.setCell ⟨w.heap.size + 1 + 1, i, none⟩ v).cell? ⟨w.heap.size, 4, none⟩ = some (.string (Z.extract 0 N2)) ∧ (W.setCell ⟨w.heap.size + 1 + 1, i, none⟩ v).cell? ⟨w.heap.size, 5, none⟩ = some (.bool true) ∧ (W.setCell ⟨w.heap.size + 1 + 1, i, none⟩ v).cell? ⟨w8.heap.size, 0, none⟩ = some (.int .i64 (N2 : Int)) ∧ (W.setCell ⟨w.heap.size + 1 + 1, i, none⟩ v).cell? ⟨w8.heap.size, 1, none⟩ = some (.int .i64 e2))) := fun W i v h => by
        obtain ⟨h0, h1, h2, h3, h4, h5, h6, h7⟩ := h
        refine ⟨?_, ?_, ?_, ?_, ?_, ?_, ?_, ?_⟩
        all_goals
          rw [World.cell?_of_block (w := W) (heap_setCell_other W _ _ _ (by simp; try omega))]
          assumption
      have hwn : IntKind.i64.wrap ((N2 : Int) - (F.size : Int)) = (c : Int) := by have := HN2.out; rw [IntKind.wrap_i64]; omega
      have qc : ((c : Int) == (c : Int)) = true := by simp
      have qe : (e2 == e2) = true := by simp
      go_region_held3 (fun W => W.cell? ⟨w.heap.size, 0, none⟩ = some (.pointer (some ⟨D, 0, none⟩)) ∧ W.cell? ⟨w.heap.size, 1, none⟩ = some (.int .i64 m) ∧ W.cell? ⟨w.heap.size, 2, none⟩ = some (.int .i64 r) ∧ W.cell? ⟨w.heap.size, 3, none⟩ = some (.int .i64 f) ∧ W.cell? ⟨w.heap.size, 4, none⟩ = some (.string (Z.extract 0 N2)) ∧ W.cell? ⟨w.heap.size, 5, none⟩ = some (.bool true) ∧ W.cell? ⟨w8.heap.size, 0, none⟩ = some (.int .i64 (N2 : Int)) ∧ W.cell? ⟨w8.heap.size, 1, none⟩ = some (.int .i64 e2)) (first | with_reducible exact HS9.out | ((try with_reducible refine HKd.out _ ?_); (repeat (with_reducible refine HKs.out _ _ _ ?_)); with_reducible exact HS9.out)) (fail)
      go_wp2
      refine bodyPost_ret (v := .tuple #[.agg #[.pointer (some ⟨D, 0, none⟩), .int .i64 m, .int .i64 r, .int .i64 f, .string (Z.extract 0 N2), .bool true], .bool true]) (by simp [results, Tryz.results16, go_sem, r0, r1, r2, r3, r4, r5]) rfl ?_
      refine ⟨Z.extract 0 N2, true, s', bs6, rfl, ⟨?_, HFe.out, HGo.out⟩, ?_, HLe.out⟩
      · (try (with_reducible refine Dec.drew ?_))
        repeat (with_reducible refine Dec.far ?_ hN4b _)
        exact HD9.out
      · (try (with_reducible refine Goes.drew ?_))
        repeat (with_reducible refine Goes.high ?_ (by show w.heap.size ≤ w.heap.size + 1 + 1; omega) _)
        exact HG9.out
    | false =>
      by_cases hez : e2 = 0
      · have hen : (e2 != 0) = false := by simp [hez]
        have HGo : Hid (false = decide (s'.mode = 5)) := (by rw [eq_comm, decide_eq_false_iff_not]; intro h; rcases HOv.out.1 h with h | h; cases h; exact h hez : false = decide (s'.mode = 5))
        clear hez
        obtain ⟨wb, hwb⟩ : ∃ wb, wb = (w8.setCell ⟨w.heap.size, 4, none⟩ (.string (Z.extract 0 N2))).setCell ⟨w.heap.size, 5, none⟩ (.bool false) := ⟨_, rfl⟩
        have hsb : wb.heap.size = w8.heap.size := by rw [hwb]; simp [World.setCell]
        have hPb : PlB wb w.heap.size (.pointer (some ⟨D, 0, none⟩)) m r f (Z.extract 0 N2) false := by rw [hwb]; exact (HP8.out.set4 _).set5 _
        have hRb : PlB wb (w.heap.size + 1 + 1) (.pointer none) 0 0 0 ⟨#[]⟩ false := by rw [hwb]; exact (HR8.out.other (by show w.heap.size + 1 + 1 ≠ w.heap.size; omega) _).other (by show w.heap.size + 1 + 1 ≠ w.heap.size; omega) _
        have hDb : Dec wb D s' bs6 := by rw [hwb]; exact (HD8.out.far hN2b _).far hN2b _
        have hGb : Goes bs w bs6 wb := by rw [hwb]; exact (HG8.out.high (Nat.le_refl _) _).high (Nat.le_refl _) _
        obtain ⟨w9, hw9⟩ : ∃ w9, w9 = wb.alloc (.cells #[.int .i64 (N2 : Int), .int .i64 e2, .bool false, .string b2, .slice va2 t2.length vc2] 74) := ⟨_, rfl⟩
        have hba : Below wb.heap.size wb w9 := by rw [hw9]; exact (Below.refl _ _).alloc (Nat.le_refl _) _
        have HX9 : Hid (WB w9 w8.heap.size (N2 : Int) e2 false b2 (.slice va2 t2.length vc2)) := (by rw [hw9, ← hsb]; exact heap_alloc_new _ _ : WB w9 w8.heap.size (N2 : Int) e2 false b2 (.slice va2 t2.length vc2))
        have HP9 : Hid (PlB w9 w.heap.size (.pointer (some ⟨D, 0, none⟩)) m r f (Z.extract 0 N2) false) := hPb.bel hba
        have HR9 : Hid (PlB w9 (w.heap.size + 1 + 1) (.pointer none) 0 0 0 ⟨#[]⟩ false) := hRb.bel hba
        have HD9 : Hid (Dec w9 D s' bs6) := hDb.below hba
        have HG9 : Hid (Goes bs w bs6 w9) := hGb.then hba
        have HW9 : Hid (w9 = ((w8.setCell ⟨w.heap.size, 4, none⟩ (.string (Z.extract 0 N2))).setCell ⟨w.heap.size, 5, none⟩ (.bool false)).alloc (.cells #[.int .i64 (N2 : Int), .int .i64 e2, .bool false, .string b2, .slice va2 t2.length vc2] 74)) := (by rw [hw9, hwb] : w9 = ((w8.setCell ⟨w.heap.size, 4, none⟩ (.string (Z.extract 0 N2))).setCell ⟨w.heap.size, 5, none⟩ (.bool false)).alloc (.cells #[.int .i64 (N2 : Int), .int .i64 e2, .bool false, .string b2, .slice va2 t2.length vc2] 74))
        clear hwb hsb hPb hRb hDb hGb hw9 hba
        go_wp2_with fail
        rw [← HW9.out]
        obtain ⟨q0, q1, q2, q3, q4, q5⟩ := HP9.out.c
        obtain ⟨z0, z1, z2, z3, z4⟩ := HX9.out.c
        obtain ⟨r0, r1, r2, r3, r4, r5⟩ := HR9.out.c
        have f0 := HR9.out.f 0
        have f1 := HR9.out.f 1
        have f2 := HR9.out.f 2
        have f3 := HR9.out.f 3
        have f4 := HR9.out.f 4
        have f5 := HR9.out.f 5
        have HS9 : Hid (w9.cell? ⟨w.heap.size, 0, none⟩ = some (.pointer (some ⟨D, 0, none⟩)) ∧ w9.cell? ⟨w.heap.size, 1, none⟩ = some (.int .i64 m) ∧ w9.cell? ⟨w.heap.size, 2, none⟩ = some (.int .i64 r) ∧ w9.cell? ⟨w.heap.size, 3, none⟩ = some (.int .i64 f) ∧ w9.cell? ⟨w.heap.size, 4, none⟩ = some (.string (Z.extract 0 N2)) ∧ w9.cell? ⟨w.heap.size, 5, none⟩ = some (.bool false) ∧ w9.cell? ⟨w8.heap.size, 0, none⟩ = some (.int .i64 (N2 : Int)) ∧ w9.cell? ⟨w8.heap.size, 1, none⟩ = some (.int .i64 e2)) := (⟨q0, q1, q2, q3, q4, q5, z0, z1⟩ : w9.cell? ⟨w.heap.size, 0, none⟩ = some (.pointer (some ⟨D, 0, none⟩)) ∧ w9.cell? ⟨w.heap.size, 1, none⟩ = some (.int .i64 m) ∧ w9.cell? ⟨w.heap.size, 2, none⟩ = some (.int .i64 r) ∧ w9.cell? ⟨w.heap.size, 3, none⟩ = some (.int .i64 f) ∧ w9.cell? ⟨w.heap.size, 4, none⟩ = some (.string (Z.extract 0 N2)) ∧ w9.cell? ⟨w.heap.size, 5, none⟩ = some (.bool false) ∧ w9.cell? ⟨w8.heap.size, 0, none⟩ = some (.int .i64 (N2 : Int)) ∧ w9.cell? ⟨w8.heap.size, 1, none⟩ = some (.int .i64 e2))
        have HKd : Hid (∀ W : World, (W.cell? ⟨w.heap.size, 0, none⟩ = some (.pointer (some ⟨D, 0, none⟩)) ∧ W.cell? ⟨w.heap.size, 1, none⟩ = some (.int .i64 m) ∧ W.cell? ⟨w.heap.size, 2, none⟩ = some (.int .i64 r) ∧ W.cell? ⟨w.heap.size, 3, none⟩ = some (.int .i64 f) ∧ W.cell? ⟨w.heap.size, 4, none⟩ = some (.string (Z.extract 0 N2)) ∧ W.cell? ⟨w.heap.size, 5, none⟩ = some (.bool false) ∧ W.cell? ⟨w8.heap.size, 0, none⟩ = some (.int .i64 (N2 : Int)) ∧ W.cell? ⟨w8.heap.size, 1, none⟩ = some (.int .i64 e2)) → (W.drew.cell? ⟨w.heap.size, 0, none⟩ = some (.pointer (some ⟨D, 0, none⟩)) ∧ W.drew.cell? ⟨w.heap.size, 1, none⟩ = some (.int .i64 m) ∧ W.drew.cell? ⟨w.heap.size, 2, none⟩ = some (.int .i64 r) ∧ W.drew.cell? ⟨w.heap.size, 3, none⟩ = some (.int .i64 f) ∧ W.drew.cell? ⟨w.heap.size, 4, none⟩ = some (.string (Z.extract 0 N2)) ∧ W.drew.cell? ⟨w.heap.size, 5, none⟩ = some (.bool false) ∧ W.drew.cell? ⟨w8.heap.size, 0, none⟩ = some (.int .i64 (N2 : Int)) ∧ W.drew.cell? ⟨w8.heap.size, 1, none⟩ = some (.int .i64 e2))) := fun W h => h
        have HKs : Hid (∀ (W : World) (i : Nat) (v : Value), (W.cell? ⟨w.heap.size, 0, none⟩ = some (.pointer (some ⟨D, 0, none⟩)) ∧ W.cell? ⟨w.heap.size, 1, none⟩ = some (.int .i64 m) ∧ W.cell? ⟨w.heap.size, 2, none⟩ = some (.int .i64 r) ∧ W.cell? ⟨w.heap.size, 3, none⟩ = some (.int .i64 f) ∧ W.cell? ⟨w.heap.size, 4, none⟩ = some (.string (Z.extract 0 N2)) ∧ W.cell? ⟨w.heap.size, 5, none⟩ = some (.bool false) ∧ W.cell? ⟨w8.heap.size, 0, none⟩ = some (.int .i64 (N2 : Int)) ∧ W.cell? ⟨w8.heap.size, 1, none⟩ = some (.int .i64 e2)) → ((W.setCell ⟨w.heap.size + 1 + 1, i, none⟩ v).cell? ⟨w.heap.size, 0, none⟩ = some (.pointer (some ⟨D, 0, none⟩)) ∧ (W.setCell ⟨w.heap.size + 1 + 1, i, none⟩ v).cell? ⟨w.heap.size, 1, none⟩ = some (.int .i64 m) ∧ (W.setCell ⟨w.heap.size + 1 + 1, i, none⟩ v).cell? ⟨w.heap.size, 2, none⟩ = some (.int .i64 r) ∧ (W.setCell ⟨w.heap.size + 1 + 1, i, none⟩ v).cell? ⟨w.heap.size, 3, none⟩ = some (.int .i64 f) ∧ (W.setCell ⟨w.heap.size + 1 + 1, i, none⟩ v).cell? ⟨w.heap.size, 4, none⟩ = some (.string (Z.extract 0 N2)) ∧ (W.setCell ⟨w.heap.size + 1 + 1, i, none⟩ v).cell? ⟨w.heap.size, 5, none⟩ = some (.bool false) ∧ (W.setCell ⟨w.heap.size + 1 + 1, i, none⟩ v).cell? ⟨w8.heap.size, 0, none⟩ = some (.int .i64 (N2 : Int)) ∧ (W.setCell ⟨w.heap.size + 1 + 1, i, none⟩ v).cell? ⟨w8.heap.size, 1, none⟩ = some (.int .i64 e2))) := fun W i v h => by
          obtain ⟨h0, h1, h2, h3, h4, h5, h6, h7⟩ := h
          refine ⟨?_, ?_, ?_, ?_, ?_, ?_, ?_, ?_⟩
          all_goals
            rw [World.cell?_of_block (w := W) (heap_setCell_other W _ _ _ (by simp; try omega))]
            assumption
        have hwn : IntKind.i64.wrap ((N2 : Int) - (F.size : Int)) = (c : Int) := by have := HN2.out; rw [IntKind.wrap_i64]; omega
        have qc : ((c : Int) == (c : Int)) = true := by simp
        have qe : (e2 == e2) = true := by simp
        go_region_held3 (fun W => W.cell? ⟨w.heap.size, 0, none⟩ = some (.pointer (some ⟨D, 0, none⟩)) ∧ W.cell? ⟨w.heap.size, 1, none⟩ = some (.int .i64 m) ∧ W.cell? ⟨w.heap.size, 2, none⟩ = some (.int .i64 r) ∧ W.cell? ⟨w.heap.size, 3, none⟩ = some (.int .i64 f) ∧ W.cell? ⟨w.heap.size, 4, none⟩ = some (.string (Z.extract 0 N2)) ∧ W.cell? ⟨w.heap.size, 5, none⟩ = some (.bool false) ∧ W.cell? ⟨w8.heap.size, 0, none⟩ = some (.int .i64 (N2 : Int)) ∧ W.cell? ⟨w8.heap.size, 1, none⟩ = some (.int .i64 e2)) (first | with_reducible exact HS9.out | ((try with_reducible refine HKd.out _ ?_); (repeat (with_reducible refine HKs.out _ _ _ ?_)); with_reducible exact HS9.out)) (fail)
        go_wp2
        refine bodyPost_ret (v := .tuple #[.agg #[.pointer (some ⟨D, 0, none⟩), .int .i64 m, .int .i64 r, .int .i64 f, .string (Z.extract 0 N2), .bool false], .bool true]) (by simp [results, Tryz.results16, go_sem, r0, r1, r2, r3, r4, r5]) rfl ?_
        refine ⟨Z.extract 0 N2, false, s', bs6, rfl, ⟨?_, HFe.out, HGo.out⟩, ?_, HLe.out⟩
        · (try (with_reducible refine Dec.drew ?_))
          repeat (with_reducible refine Dec.far ?_ hN4b _)
          exact HD9.out
        · (try (with_reducible refine Goes.drew ?_))
          repeat (with_reducible refine Goes.high ?_ (by show w.heap.size ≤ w.heap.size + 1 + 1; omega) _)
          exact HG9.out
      · have hen : (e2 != 0) = true := by simp [hez]
        have HGo : Hid (true = decide (s'.mode = 5)) := (by rw [eq_comm, decide_eq_true_iff]; exact HOv.out.2 (.inr hez) : true = decide (s'.mode = 5))
        clear hez
        obtain ⟨wb, hwb⟩ : ∃ wb, wb = (w8.setCell ⟨w.heap.size, 4, none⟩ (.string (Z.extract 0 N2))).setCell ⟨w.heap.size, 5, none⟩ (.bool true) := ⟨_, rfl⟩
        have hsb : wb.heap.size = w8.heap.size := by rw [hwb]; simp [World.setCell]
        have hPb : PlB wb w.heap.size (.pointer (some ⟨D, 0, none⟩)) m r f (Z.extract 0 N2) true := by rw [hwb]; exact (HP8.out.set4 _).set5 _
        have hRb : PlB wb (w.heap.size + 1 + 1) (.pointer none) 0 0 0 ⟨#[]⟩ false := by rw [hwb]; exact (HR8.out.other (by show w.heap.size + 1 + 1 ≠ w.heap.size; omega) _).other (by show w.heap.size + 1 + 1 ≠ w.heap.size; omega) _
        have hDb : Dec wb D s' bs6 := by rw [hwb]; exact (HD8.out.far hN2b _).far hN2b _
        have hGb : Goes bs w bs6 wb := by rw [hwb]; exact (HG8.out.high (Nat.le_refl _) _).high (Nat.le_refl _) _
        obtain ⟨w9, hw9⟩ : ∃ w9, w9 = wb.alloc (.cells #[.int .i64 (N2 : Int), .int .i64 e2, .bool false, .string b2, .slice va2 t2.length vc2] 74) := ⟨_, rfl⟩
        have hba : Below wb.heap.size wb w9 := by rw [hw9]; exact (Below.refl _ _).alloc (Nat.le_refl _) _
        have HX9 : Hid (WB w9 w8.heap.size (N2 : Int) e2 false b2 (.slice va2 t2.length vc2)) := (by rw [hw9, ← hsb]; exact heap_alloc_new _ _ : WB w9 w8.heap.size (N2 : Int) e2 false b2 (.slice va2 t2.length vc2))
        have HP9 : Hid (PlB w9 w.heap.size (.pointer (some ⟨D, 0, none⟩)) m r f (Z.extract 0 N2) true) := hPb.bel hba
        have HR9 : Hid (PlB w9 (w.heap.size + 1 + 1) (.pointer none) 0 0 0 ⟨#[]⟩ false) := hRb.bel hba
        have HD9 : Hid (Dec w9 D s' bs6) := hDb.below hba
        have HG9 : Hid (Goes bs w bs6 w9) := hGb.then hba
        have HW9 : Hid (w9 = ((w8.setCell ⟨w.heap.size, 4, none⟩ (.string (Z.extract 0 N2))).setCell ⟨w.heap.size, 5, none⟩ (.bool true)).alloc (.cells #[.int .i64 (N2 : Int), .int .i64 e2, .bool false, .string b2, .slice va2 t2.length vc2] 74)) := (by rw [hw9, hwb] : w9 = ((w8.setCell ⟨w.heap.size, 4, none⟩ (.string (Z.extract 0 N2))).setCell ⟨w.heap.size, 5, none⟩ (.bool true)).alloc (.cells #[.int .i64 (N2 : Int), .int .i64 e2, .bool false, .string b2, .slice va2 t2.length vc2] 74))
        clear hwb hsb hPb hRb hDb hGb hw9 hba
        go_wp2_with fail
        rw [← HW9.out]
        obtain ⟨q0, q1, q2, q3, q4, q5⟩ := HP9.out.c
        obtain ⟨z0, z1, z2, z3, z4⟩ := HX9.out.c
        obtain ⟨r0, r1, r2, r3, r4, r5⟩ := HR9.out.c
        have f0 := HR9.out.f 0
        have f1 := HR9.out.f 1
        have f2 := HR9.out.f 2
        have f3 := HR9.out.f 3
        have f4 := HR9.out.f 4
        have f5 := HR9.out.f 5
        have HS9 : Hid (w9.cell? ⟨w.heap.size, 0, none⟩ = some (.pointer (some ⟨D, 0, none⟩)) ∧ w9.cell? ⟨w.heap.size, 1, none⟩ = some (.int .i64 m) ∧ w9.cell? ⟨w.heap.size, 2, none⟩ = some (.int .i64 r) ∧ w9.cell? ⟨w.heap.size, 3, none⟩ = some (.int .i64 f) ∧ w9.cell? ⟨w.heap.size, 4, none⟩ = some (.string (Z.extract 0 N2)) ∧ w9.cell? ⟨w.heap.size, 5, none⟩ = some (.bool true) ∧ w9.cell? ⟨w8.heap.size, 0, none⟩ = some (.int .i64 (N2 : Int)) ∧ w9.cell? ⟨w8.heap.size, 1, none⟩ = some (.int .i64 e2)) := (⟨q0, q1, q2, q3, q4, q5, z0, z1⟩ : w9.cell? ⟨w.heap.size, 0, none⟩ = some (.pointer (some ⟨D, 0, none⟩)) ∧ w9.cell? ⟨w.heap.size, 1, none⟩ = some (.int .i64 m) ∧ w9.cell? ⟨w.heap.size, 2, none⟩ = some (.int .i64 r) ∧ w9.cell? ⟨w.heap.size, 3, none⟩ = some (.int .i64 f) ∧ w9.cell? ⟨w.heap.size, 4, none⟩ = some (.string (Z.extract 0 N2)) ∧ w9.cell? ⟨w.heap.size, 5, none⟩ = some (.bool true) ∧ w9.cell? ⟨w8.heap.size, 0, none⟩ = some (.int .i64 (N2 : Int)) ∧ w9.cell? ⟨w8.heap.size, 1, none⟩ = some (.int .i64 e2))
        have HKd : Hid (∀ W : World, (W.cell? ⟨w.heap.size, 0, none⟩ = some (.pointer (some ⟨D, 0, none⟩)) ∧ W.cell? ⟨w.heap.size, 1, none⟩ = some (.int .i64 m) ∧ W.cell? ⟨w.heap.size, 2, none⟩ = some (.int .i64 r) ∧ W.cell? ⟨w.heap.size, 3, none⟩ = some (.int .i64 f) ∧ W.cell? ⟨w.heap.size, 4, none⟩ = some (.string (Z.extract 0 N2)) ∧ W.cell? ⟨w.heap.size, 5, none⟩ = some (.bool true) ∧ W.cell? ⟨w8.heap.size, 0, none⟩ = some (.int .i64 (N2 : Int)) ∧ W.cell? ⟨w8.heap.size, 1, none⟩ = some (.int .i64 e2)) → (W.drew.cell? ⟨w.heap.size, 0, none⟩ = some (.pointer (some ⟨D, 0, none⟩)) ∧ W.drew.cell? ⟨w.heap.size, 1, none⟩ = some (.int .i64 m) ∧ W.drew.cell? ⟨w.heap.size, 2, none⟩ = some (.int .i64 r) ∧ W.drew.cell? ⟨w.heap.size, 3, none⟩ = some (.int .i64 f) ∧ W.drew.cell? ⟨w.heap.size, 4, none⟩ = some (.string (Z.extract 0 N2)) ∧ W.drew.cell? ⟨w.heap.size, 5, none⟩ = some (.bool true) ∧ W.drew.cell? ⟨w8.heap.size, 0, none⟩ = some (.int .i64 (N2 : Int)) ∧ W.drew.cell? ⟨w8.heap.size, 1, none⟩ = some (.int .i64 e2))) := fun W h => h
        have HKs : Hid (∀ (W : World) (i : Nat) (v : Value), (W.cell? ⟨w.heap.size, 0, none⟩ = some (.pointer (some ⟨D, 0, none⟩)) ∧ W.cell? ⟨w.heap.size, 1, none⟩ = some (.int .i64 m) ∧ W.cell? ⟨w.heap.size, 2, none⟩ = some (.int .i64 r) ∧ W.cell? ⟨w.heap.size, 3, none⟩ = some (.int .i64 f) ∧ W.cell? ⟨w.heap.size, 4, none⟩ = some (.string (Z.extract 0 N2)) ∧ W.cell? ⟨w.heap.size, 5, none⟩ = some (.bool true) ∧ W.cell? ⟨w8.heap.size, 0, none⟩ = some (.int .i64 (N2 : Int)) ∧ W.cell? ⟨w8.heap.size, 1, none⟩ = some (.int .i64 e2)) → ((W.setCell ⟨w.heap.size + 1 + 1, i, none⟩ v).cell? ⟨w.heap.size, 0, none⟩ = some (.pointer (some ⟨D, 0, none⟩)) ∧ (W.setCell ⟨w.heap.size + 1 + 1, i, none⟩ v).cell? ⟨w.heap.size, 1, none⟩ = some (.int .i64 m) ∧ (W.setCell ⟨w.heap.size + 1 + 1, i, none⟩ v).cell? ⟨w.heap.size, 2, none⟩ = some (.int .i64 r) ∧ (W.setCell ⟨w.heap.size + 1 + 1, i, none⟩ v).cell? ⟨w.heap.size, 3, none⟩ = some (.int .i64 f) ∧ (W.setCell ⟨w.heap.size + 1 + 1, i, none⟩ v).cell? ⟨w.heap.size, 4, none⟩ = some (.string (Z.extract 0 N2)) ∧ (W.setCell ⟨w.heap.size + 1 + 1, i, none⟩ v).cell? ⟨w.heap.size, 5, none⟩ = some (.bool true) ∧ (W.setCell ⟨w.heap.size + 1 + 1, i, none⟩ v).cell? ⟨w8.heap.size, 0, none⟩ = some (.int .i64 (N2 : Int)) ∧ (W.setCell ⟨w.heap.size + 1 + 1, i, none⟩ v).cell? ⟨w8.heap.size, 1, none⟩ = some (.int .i64 e2))) := fun W i v h => by
          obtain ⟨h0, h1, h2, h3, h4, h5, h6, h7⟩ := h
          refine ⟨?_, ?_, ?_, ?_, ?_, ?_, ?_, ?_⟩
          all_goals
            rw [World.cell?_of_block (w := W) (heap_setCell_other W _ _ _ (by simp; try omega))]
            assumption
        have hwn : IntKind.i64.wrap ((N2 : Int) - (F.size : Int)) = (c : Int) := by have := HN2.out; rw [IntKind.wrap_i64]; omega
        have qc : ((c : Int) == (c : Int)) = true := by simp
        have qe : (e2 == e2) = true := by simp
        go_region_held3 (fun W => W.cell? ⟨w.heap.size, 0, none⟩ = some (.pointer (some ⟨D, 0, none⟩)) ∧ W.cell? ⟨w.heap.size, 1, none⟩ = some (.int .i64 m) ∧ W.cell? ⟨w.heap.size, 2, none⟩ = some (.int .i64 r) ∧ W.cell? ⟨w.heap.size, 3, none⟩ = some (.int .i64 f) ∧ W.cell? ⟨w.heap.size, 4, none⟩ = some (.string (Z.extract 0 N2)) ∧ W.cell? ⟨w.heap.size, 5, none⟩ = some (.bool true) ∧ W.cell? ⟨w8.heap.size, 0, none⟩ = some (.int .i64 (N2 : Int)) ∧ W.cell? ⟨w8.heap.size, 1, none⟩ = some (.int .i64 e2)) (first | with_reducible exact HS9.out | ((try with_reducible refine HKd.out _ ?_); (repeat (with_reducible refine HKs.out _ _ _ ?_)); with_reducible exact HS9.out)) (fail)
        go_wp2
        refine bodyPost_ret (v := .tuple #[.agg #[.pointer (some ⟨D, 0, none⟩), .int .i64 m, .int .i64 r, .int .i64 f, .string (Z.extract 0 N2), .bool true], .bool true]) (by simp [results, Tryz.results16, go_sem, r0, r1, r2, r3, r4, r5]) rfl ?_
        refine ⟨Z.extract 0 N2, true, s', bs6, rfl, ⟨?_, HFe.out, HGo.out⟩, ?_, HLe.out⟩
        · (try (with_reducible refine Dec.drew ?_))
          repeat (with_reducible refine Dec.far ?_ hN4b _)
          exact HD9.out
        · (try (with_reducible refine Goes.drew ?_))
          repeat (with_reducible refine Goes.high ?_ (by show w.heap.size ≤ w.heap.size + 1 + 1; omega) _)
          exact HG9.out

end Ck
end Go.Proofs.YtdbnlpnnfnodnaaGreatDoor

/-
  A decoder that is played: one step, by its kind.
-/
set_option linter.unusedVariables false
set_option linter.unusedSimpArgs false
set_option maxRecDepth 100000
namespace Go.Proofs.YtdbnlpnnfnodnaaGreatDoor
open Go.RowKit Go.Shelf
namespace Ck
open Oc Tg _root_.Go.Proofs.YtdbnlpnnfnodnaaGreatDoor.Fd

set_option maxHeartbeats 4000000 in
theorem step_1 {w0 w : World} {D : Nat} {m r f : Int} {F : ByteArray} {g : Bool} {s : DS} {bs : List Nat} (hbase : Base w0 w bs) (hpl : Play w D m r f F g s bs) (hm0 : 0 ≤ m) (hm1 : m ≤ 9223372036854775807) (hr0 : 0 ≤ r) (hr1 : r ≤ 9223372036854775807) (hf0 : 0 ≤ f) (hf1 : f ≤ 9223372036854775807) (k : Int) (hk0 : -9223372036854775808 ≤ k) (hk1 : k ≤ 9223372036854775807) (S : ByteArray) (hsF : F.size + S.size ≤ 1048576) (hkj : kindN k 6 = 1) :
    Calls Tryz.prog 16 #[.agg #[.pointer (some ⟨D, 0, none⟩), .int .i64 m, .int .i64 r, .int .i64 f, .string F, .bool g], .agg #[.int .i64 k, .string S]] w (StepP w D m r f F S bs) := by
  have HKJ : Hid (kindN k 6 = 1) := hkj
  clear hkj
  obtain ⟨W1, W2, W3, hB⟩ := three_blocks w (.pointer (some ⟨D, 0, none⟩)) m r f F g k S
  obtain ⟨w2, hw2⟩ : ∃ w2, w2 = ((w.alloc (.cells #[.pointer (some ⟨D, 0, none⟩), .int .i64 m, .int .i64 r, .int .i64 f, .string F, .bool g] 49)).alloc (.cells #[.int .i64 k, .string S] 53)).alloc (.cells #[.pointer none, .int .i64 0, .int .i64 0, .int .i64 0, .string ⟨#[]⟩, .bool false] 49) := ⟨_, rfl⟩
  rw [← hw2] at W1 W2 W3 hB
  have HW2 : Hid (w2 = ((w.alloc (.cells #[.pointer (some ⟨D, 0, none⟩), .int .i64 m, .int .i64 r, .int .i64 f, .string F, .bool g] 49)).alloc (.cells #[.int .i64 k, .string S] 53)).alloc (.cells #[.pointer none, .int .i64 0, .int .i64 0, .int .i64 0, .string ⟨#[]⟩, .bool false] 49)) := hw2
  have HB2 : Hid (Below w.heap.size w w2) := hB
  have HP2 : Hid (PlB w2 w.heap.size (.pointer (some ⟨D, 0, none⟩)) m r f F g) := W1
  have HO2 : Hid (OpB w2 (w.heap.size + 1) k S) := W2
  have HR2 : Hid (PlB w2 (w.heap.size + 1 + 1) (.pointer none) 0 0 0 ⟨#[]⟩ false) := W3
  have HWk : Hid (∀ w, Calls Tryz.prog 27 #[.agg #[.pointer (some ⟨D, 0, none⟩), .int .i64 m, .int .i64 r, .int .i64 f, .string F, .bool g]] w fun x w' => ∃ (n : Nat) (e : Int) (d : Bool) (b : ByteArray) (t : List Fl) (v : Value), x = .returned (wkV (n : Int) e d b v) ∧ Sees (eat (new m r f) F.data.toList) n e d b.data.toList t ∧ OwnF 78 w.heap.size v t w' ∧ Below w.heap.size w w') := fun w => pwalk_some D m r f hm0 hm1 hr0 hr1 hf0 hf1 F (by omega) g w
  have HPl : Hid (Play w D m r f F g s bs) := hpl
  have HBs : Hid (Base w0 w bs) := hbase
  obtain ⟨p0, p1, p2, p3, p4, p5⟩ := W1.c
  obtain ⟨o0, o1⟩ := W2.c
  have HLt : Hid (∀ x, x ∈ bs → x < w.heap.size) := hpl.dec.lt
  have hszF : s.tr.length ≤ F.size := by have := hpl.fed.ok.len; rw [size_list] at this; omega
  clear hw2 hB W1 W2 W3 hpl hbase
  go_enter Tryz.func16, Tryz.ntmps16
  go_wp2_with fail
  try rw [← HW2.out]
  try go_wp2_with fail
  refine (HWk.out _).mono ?_
  rintro x w3 ⟨n, e, d, b, t, v, rfl, hsee, hown, hb3⟩
  rw [← size_list F] at hsF
  obtain ⟨rfl, rfl, rfl, hbb, rfl⟩ := HPl.out.fed.sees hsee
  obtain ⟨va, vc, hv⟩ := OwnF.form hown
  subst hv
  rw [size_list] at hsF ⊢
  have HP3 : Hid (PlB w3 w.heap.size (.pointer (some ⟨D, 0, none⟩)) m r f F g) := HP2.out.bel hb3
  have HO3 : Hid (OpB w3 (w.heap.size + 1) k S) := HO2.out.bel hb3
  have HR3 : Hid (PlB w3 (w.heap.size + 1 + 1) (.pointer none) 0 0 0 ⟨#[]⟩ false) := HR2.out.bel hb3
  have HB3 : Hid (Below w.heap.size w w3) := bel_trans HB2.out hb3
  have HT3 : Hid (OwnF 78 w2.heap.size (.slice va s.tr.length vc) s.tr w3) := hown
  have HBB : Hid (b = str s.body) := (eq_list (by rw [str_list]; exact hbb) : b = str s.body)
  clear hsee hown hb3 hbb p0 p1 p2 p3 p4 p5 o0 o1
  unfold wkV
  obtain ⟨w4, hw4⟩ : ∃ w4, w4 = w3.alloc (.cells #[.int .i64 (F.size : Int), .int .i64 s.err, .bool s.done, .string b, .slice va s.tr.length vc] 74) := ⟨_, rfl⟩
  have hA4 : Below w3.heap.size w3 w4 := by rw [hw4]; exact (Below.refl _ _).alloc (Nat.le_refl _) _
  have HX4 : Hid (WB w4 w3.heap.size (F.size : Int) s.err s.done b (.slice va s.tr.length vc)) := (by rw [hw4]; exact heap_alloc_new _ _ : WB w4 w3.heap.size (F.size : Int) s.err s.done b (.slice va s.tr.length vc))
  have HW4 : Hid (w4 = w3.alloc (.cells #[.int .i64 (F.size : Int), .int .i64 s.err, .bool s.done, .string b, .slice va s.tr.length vc] 74)) := hw4
  have HP4 : Hid (PlB w4 w.heap.size (.pointer (some ⟨D, 0, none⟩)) m r f F g) := HP3.out.bel hA4
  have HO4 : Hid (OpB w4 (w.heap.size + 1) k S) := HO3.out.bel hA4
  have HR4 : Hid (PlB w4 (w.heap.size + 1 + 1) (.pointer none) 0 0 0 ⟨#[]⟩ false) := HR3.out.bel hA4
  have HB4 : Hid (Below w.heap.size w w4) := bel_trans HB3.out hA4
  have HT4 : Hid (OwnF 78 w2.heap.size (.slice va s.tr.length vc) s.tr w4) := HT3.out.below hA4
  obtain ⟨o0, o1⟩ := HO3.out.c
  have hlt31 : w.heap.size + 1 < w3.heap.size := by have := HR3.out.lt; omega
  have hne3 : w.heap.size + 1 ≠ w3.heap.size := by have := HR3.out.lt; omega
  have hne4 : w3.heap.size ≠ w.heap.size + 1 := by have := HR3.out.lt; omega
  have hlt3 := HR3.out.lt
  clear hw4 hA4
  go_wp2_with fail
  rw [← HW4.out]
  refine (kind_is w4 k 6 hk0 hk1 (by omega) (by omega)).mono ?_
  rintro x w5 ⟨rfl, hb5⟩
  rw [HKJ.out]
  have HX5 : Hid (WB w5 w3.heap.size (F.size : Int) s.err s.done b (.slice va s.tr.length vc)) := HX4.out.bel hb5
  have HP5 : Hid (PlB w5 w.heap.size (.pointer (some ⟨D, 0, none⟩)) m r f F g) := HP4.out.bel hb5
  have HO5 : Hid (OpB w5 (w.heap.size + 1) k S) := HO4.out.bel hb5
  have HR5 : Hid (PlB w5 (w.heap.size + 1 + 1) (.pointer none) 0 0 0 ⟨#[]⟩ false) := HR4.out.bel hb5
  have HB5 : Hid (Below w.heap.size w w5) := bel_trans HB4.out hb5
  have HT5 : Hid (OwnF 78 w2.heap.size (.slice va s.tr.length vc) s.tr w5) := HT4.out.below hb5
  have HD5 : Hid (Dec w5 D s bs) := HPl.out.dec.below HB5.out
  obtain ⟨x0, x1, x2, x3, x4⟩ := HX5.out.c
  obtain ⟨p0, p1, p2, p3, p4, p5⟩ := HP5.out.c
  obtain ⟨r0, r1, r2, r3, r4, r5⟩ := HR5.out.c
  have f0 := HR5.out.f 0
  have f1 := HR5.out.f 1
  have f2 := HR5.out.f 2
  have f3 := HR5.out.f 3
  have f4 := HR5.out.f 4
  have f5 := HR5.out.f 5
  have hsz5 := HR5.out.lt
  have hs5x := HX5.out.lt
  clear hb5 o0 o1 hne3 hne4 hlt31
  have q1 : (s.done == s.done) = true := by simp
  have hS5 : w5.cell? ⟨w.heap.size, 0, none⟩ = some (.pointer (some ⟨D, 0, none⟩)) ∧ w5.cell? ⟨w.heap.size, 1, none⟩ = some (.int .i64 m) ∧ w5.cell? ⟨w.heap.size, 2, none⟩ = some (.int .i64 r) ∧ w5.cell? ⟨w.heap.size, 3, none⟩ = some (.int .i64 f) ∧ w5.cell? ⟨w.heap.size, 4, none⟩ = some (.string F) ∧ w5.cell? ⟨w.heap.size, 5, none⟩ = some (.bool g) ∧ w5.cell? ⟨w3.heap.size, 2, none⟩ = some (.bool s.done) := ⟨p0, p1, p2, p3, p4, p5, x2⟩
  have HS5 : Hid (w5.cell? ⟨w.heap.size, 0, none⟩ = some (.pointer (some ⟨D, 0, none⟩)) ∧ w5.cell? ⟨w.heap.size, 1, none⟩ = some (.int .i64 m) ∧ w5.cell? ⟨w.heap.size, 2, none⟩ = some (.int .i64 r) ∧ w5.cell? ⟨w.heap.size, 3, none⟩ = some (.int .i64 f) ∧ w5.cell? ⟨w.heap.size, 4, none⟩ = some (.string F) ∧ w5.cell? ⟨w.heap.size, 5, none⟩ = some (.bool g) ∧ w5.cell? ⟨w3.heap.size, 2, none⟩ = some (.bool s.done)) := hS5
  have HKd : Hid (∀ W : World, (W.cell? ⟨w.heap.size, 0, none⟩ = some (.pointer (some ⟨D, 0, none⟩)) ∧ W.cell? ⟨w.heap.size, 1, none⟩ = some (.int .i64 m) ∧ W.cell? ⟨w.heap.size, 2, none⟩ = some (.int .i64 r) ∧ W.cell? ⟨w.heap.size, 3, none⟩ = some (.int .i64 f) ∧ W.cell? ⟨w.heap.size, 4, none⟩ = some (.string F) ∧ W.cell? ⟨w.heap.size, 5, none⟩ = some (.bool g) ∧ W.cell? ⟨w3.heap.size, 2, none⟩ = some (.bool s.done)) → (W.drew.cell? ⟨w.heap.size, 0, none⟩ = some (.pointer (some ⟨D, 0, none⟩)) ∧ W.drew.cell? ⟨w.heap.size, 1, none⟩ = some (.int .i64 m) ∧ W.drew.cell? ⟨w.heap.size, 2, none⟩ = some (.int .i64 r) ∧ W.drew.cell? ⟨w.heap.size, 3, none⟩ = some (.int .i64 f) ∧ W.drew.cell? ⟨w.heap.size, 4, none⟩ = some (.string F) ∧ W.drew.cell? ⟨w.heap.size, 5, none⟩ = some (.bool g) ∧ W.drew.cell? ⟨w3.heap.size, 2, none⟩ = some (.bool s.done))) := fun W h => h
  have HKs : Hid (∀ (W : World) (i : Nat) (v : Value), (W.cell? ⟨w.heap.size, 0, none⟩ = some (.pointer (some ⟨D, 0, none⟩)) ∧ W.cell? ⟨w.heap.size, 1, none⟩ = some (.int .i64 m) ∧ W.cell? ⟨w.heap.size, 2, none⟩ = some (.int .i64 r) ∧ W.cell? ⟨w.heap.size, 3, none⟩ = some (.int .i64 f) ∧ W.cell? ⟨w.heap.size, 4, none⟩ = some (.string F) ∧ W.cell? ⟨w.heap.size, 5, none⟩ = some (.bool g) ∧ W.cell? ⟨w3.heap.size, 2, none⟩ = some (.bool s.done)) → ((W.setCell ⟨w.heap.size + 1 + 1, i, none⟩ v).cell? ⟨w.heap.size, 0, none⟩ = some (.pointer (some ⟨D, 0, none⟩)) ∧ (W.setCell ⟨w.heap.size + 1 + 1, i, none⟩ v).cell? ⟨w.heap.size, 1, none⟩ = some (.int .i64 m) ∧ (W.setCell ⟨w.heap.size + 1 + 1, i, none⟩ v).cell? ⟨w.heap.size, 2, none⟩ = some (.int .i64 r) ∧ (W.setCell ⟨w.heap.size + 1 + 1, i, none⟩ v).cell? ⟨w.heap.size, 3, none⟩ = some (.int .i64 f) ∧ (W.setCell ⟨w.heap.size + 1 + 1, i, none⟩ v).cell? ⟨w.heap.size, 4, none⟩ = some (.string F) ∧ (W.setCell ⟨w.heap.size + 1 + 1, i, none⟩ v).cell? ⟨w.heap.size, 5, none⟩ = some (.bool g) ∧ (W.setCell ⟨w.heap.size + 1 + 1, i, none⟩ v).cell? ⟨w3.heap.size, 2, none⟩ = some (.bool s.done))) := fun W i v h => by
    obtain ⟨h0, h1, h2, h3, h4, h5, h6⟩ := h
    refine ⟨?_, ?_, ?_, ?_, ?_, ?_, ?_⟩
    all_goals
      rw [World.cell?_of_block (w := W) (heap_setCell_other W _ _ _ (by simp; try omega))]
      assumption
  have HD5d : Hid (Dec w5.drew D s bs) := HD5.out.below ((Below.refl _ _).drew)
  clear hS5
  go_wp2_with fail
  go_region_held3 (fun W => W.cell? ⟨w.heap.size, 0, none⟩ = some (.pointer (some ⟨D, 0, none⟩)) ∧ W.cell? ⟨w.heap.size, 1, none⟩ = some (.int .i64 m) ∧ W.cell? ⟨w.heap.size, 2, none⟩ = some (.int .i64 r) ∧ W.cell? ⟨w.heap.size, 3, none⟩ = some (.int .i64 f) ∧ W.cell? ⟨w.heap.size, 4, none⟩ = some (.string F) ∧ W.cell? ⟨w.heap.size, 5, none⟩ = some (.bool g) ∧ W.cell? ⟨w3.heap.size, 2, none⟩ = some (.bool s.done)) (first | with_reducible exact HS5.out | ((try with_reducible refine HKd.out _ ?_); (repeat (with_reducible refine HKs.out _ _ _ ?_)); with_reducible exact HS5.out)) (first | (go_at_call 29; refine (Done_any HD5d.out).mono ?_; rintro x w6 ⟨rfl, hw6⟩; rw [hw6]; clear hw6))
  go_wp2
  refine bodyPost_ret (v := .tuple #[.agg #[.pointer (some ⟨D, 0, none⟩), .int .i64 m, .int .i64 r, .int .i64 f, .string F, .bool g], .bool true]) (by simp [results, Tryz.results16, go_sem, r0, r1, r2, r3, r4, r5]) rfl ?_
  have hbb : Below w.heap.size w w5 := HB5.out
  refine ⟨F, g, s, bs, rfl, ⟨HPl.out.dec.below ?_, HPl.out.fed, HPl.out.gone⟩, Goes.below ?_, Nat.le_add_right _ _⟩
  all_goals
    (try (with_reducible refine Below.drew ?_))
    repeat (refine Below.setCell ?_ (by show w.heap.size ≤ w.heap.size + 1 + 1; omega) _)
    exact hbb

end Ck
end Go.Proofs.YtdbnlpnnfnodnaaGreatDoor

/-
  A decoder that is played: one step, by its kind.
-/
set_option linter.unusedVariables false
set_option linter.unusedSimpArgs false
set_option maxRecDepth 100000
namespace Go.Proofs.YtdbnlpnnfnodnaaGreatDoor
open Go.RowKit Go.Shelf
namespace Ck
open Oc Tg _root_.Go.Proofs.YtdbnlpnnfnodnaaGreatDoor.Fd

set_option maxHeartbeats 4000000 in
theorem step_2 {w0 w : World} {D : Nat} {m r f : Int} {F : ByteArray} {g : Bool} {s : DS} {bs : List Nat} (hbase : Base w0 w bs) (hpl : Play w D m r f F g s bs) (hm0 : 0 ≤ m) (hm1 : m ≤ 9223372036854775807) (hr0 : 0 ≤ r) (hr1 : r ≤ 9223372036854775807) (hf0 : 0 ≤ f) (hf1 : f ≤ 9223372036854775807) (k : Int) (hk0 : -9223372036854775808 ≤ k) (hk1 : k ≤ 9223372036854775807) (S : ByteArray) (hsF : F.size + S.size ≤ 1048576) (hkj : kindN k 6 = 2) :
    Calls Tryz.prog 16 #[.agg #[.pointer (some ⟨D, 0, none⟩), .int .i64 m, .int .i64 r, .int .i64 f, .string F, .bool g], .agg #[.int .i64 k, .string S]] w (StepP w D m r f F S bs) := by
  have HKJ : Hid (kindN k 6 = 2) := hkj
  clear hkj
  obtain ⟨W1, W2, W3, hB⟩ := three_blocks w (.pointer (some ⟨D, 0, none⟩)) m r f F g k S
  obtain ⟨w2, hw2⟩ : ∃ w2, w2 = ((w.alloc (.cells #[.pointer (some ⟨D, 0, none⟩), .int .i64 m, .int .i64 r, .int .i64 f, .string F, .bool g] 49)).alloc (.cells #[.int .i64 k, .string S] 53)).alloc (.cells #[.pointer none, .int .i64 0, .int .i64 0, .int .i64 0, .string ⟨#[]⟩, .bool false] 49) := ⟨_, rfl⟩
  rw [← hw2] at W1 W2 W3 hB
  have HW2 : Hid (w2 = ((w.alloc (.cells #[.pointer (some ⟨D, 0, none⟩), .int .i64 m, .int .i64 r, .int .i64 f, .string F, .bool g] 49)).alloc (.cells #[.int .i64 k, .string S] 53)).alloc (.cells #[.pointer none, .int .i64 0, .int .i64 0, .int .i64 0, .string ⟨#[]⟩, .bool false] 49)) := hw2
  have HB2 : Hid (Below w.heap.size w w2) := hB
  have HP2 : Hid (PlB w2 w.heap.size (.pointer (some ⟨D, 0, none⟩)) m r f F g) := W1
  have HO2 : Hid (OpB w2 (w.heap.size + 1) k S) := W2
  have HR2 : Hid (PlB w2 (w.heap.size + 1 + 1) (.pointer none) 0 0 0 ⟨#[]⟩ false) := W3
  have HWk : Hid (∀ w, Calls Tryz.prog 27 #[.agg #[.pointer (some ⟨D, 0, none⟩), .int .i64 m, .int .i64 r, .int .i64 f, .string F, .bool g]] w fun x w' => ∃ (n : Nat) (e : Int) (d : Bool) (b : ByteArray) (t : List Fl) (v : Value), x = .returned (wkV (n : Int) e d b v) ∧ Sees (eat (new m r f) F.data.toList) n e d b.data.toList t ∧ OwnF 78 w.heap.size v t w' ∧ Below w.heap.size w w') := fun w => pwalk_some D m r f hm0 hm1 hr0 hr1 hf0 hf1 F (by omega) g w
  have HPl : Hid (Play w D m r f F g s bs) := hpl
  have HBs : Hid (Base w0 w bs) := hbase
  obtain ⟨p0, p1, p2, p3, p4, p5⟩ := W1.c
  obtain ⟨o0, o1⟩ := W2.c
  have HLt : Hid (∀ x, x ∈ bs → x < w.heap.size) := hpl.dec.lt
  have hszF : s.tr.length ≤ F.size := by have := hpl.fed.ok.len; rw [size_list] at this; omega
  clear hw2 hB W1 W2 W3 hpl hbase
  go_enter Tryz.func16, Tryz.ntmps16
  go_wp2_with fail
  try rw [← HW2.out]
  try go_wp2_with fail
  refine (HWk.out _).mono ?_
  rintro x w3 ⟨n, e, d, b, t, v, rfl, hsee, hown, hb3⟩
  rw [← size_list F] at hsF
  obtain ⟨rfl, rfl, rfl, hbb, rfl⟩ := HPl.out.fed.sees hsee
  obtain ⟨va, vc, hv⟩ := OwnF.form hown
  subst hv
  rw [size_list] at hsF ⊢
  have HP3 : Hid (PlB w3 w.heap.size (.pointer (some ⟨D, 0, none⟩)) m r f F g) := HP2.out.bel hb3
  have HO3 : Hid (OpB w3 (w.heap.size + 1) k S) := HO2.out.bel hb3
  have HR3 : Hid (PlB w3 (w.heap.size + 1 + 1) (.pointer none) 0 0 0 ⟨#[]⟩ false) := HR2.out.bel hb3
  have HB3 : Hid (Below w.heap.size w w3) := bel_trans HB2.out hb3
  have HT3 : Hid (OwnF 78 w2.heap.size (.slice va s.tr.length vc) s.tr w3) := hown
  have HBB : Hid (b = str s.body) := (eq_list (by rw [str_list]; exact hbb) : b = str s.body)
  clear hsee hown hb3 hbb p0 p1 p2 p3 p4 p5 o0 o1
  unfold wkV
  obtain ⟨w4, hw4⟩ : ∃ w4, w4 = w3.alloc (.cells #[.int .i64 (F.size : Int), .int .i64 s.err, .bool s.done, .string b, .slice va s.tr.length vc] 74) := ⟨_, rfl⟩
  have hA4 : Below w3.heap.size w3 w4 := by rw [hw4]; exact (Below.refl _ _).alloc (Nat.le_refl _) _
  have HX4 : Hid (WB w4 w3.heap.size (F.size : Int) s.err s.done b (.slice va s.tr.length vc)) := (by rw [hw4]; exact heap_alloc_new _ _ : WB w4 w3.heap.size (F.size : Int) s.err s.done b (.slice va s.tr.length vc))
  have HW4 : Hid (w4 = w3.alloc (.cells #[.int .i64 (F.size : Int), .int .i64 s.err, .bool s.done, .string b, .slice va s.tr.length vc] 74)) := hw4
  have HP4 : Hid (PlB w4 w.heap.size (.pointer (some ⟨D, 0, none⟩)) m r f F g) := HP3.out.bel hA4
  have HO4 : Hid (OpB w4 (w.heap.size + 1) k S) := HO3.out.bel hA4
  have HR4 : Hid (PlB w4 (w.heap.size + 1 + 1) (.pointer none) 0 0 0 ⟨#[]⟩ false) := HR3.out.bel hA4
  have HB4 : Hid (Below w.heap.size w w4) := bel_trans HB3.out hA4
  have HT4 : Hid (OwnF 78 w2.heap.size (.slice va s.tr.length vc) s.tr w4) := HT3.out.below hA4
  obtain ⟨o0, o1⟩ := HO3.out.c
  have hlt31 : w.heap.size + 1 < w3.heap.size := by have := HR3.out.lt; omega
  have hne3 : w.heap.size + 1 ≠ w3.heap.size := by have := HR3.out.lt; omega
  have hne4 : w3.heap.size ≠ w.heap.size + 1 := by have := HR3.out.lt; omega
  have hlt3 := HR3.out.lt
  clear hw4 hA4
  go_wp2_with fail
  rw [← HW4.out]
  refine (kind_is w4 k 6 hk0 hk1 (by omega) (by omega)).mono ?_
  rintro x w5 ⟨rfl, hb5⟩
  rw [HKJ.out]
  have HX5 : Hid (WB w5 w3.heap.size (F.size : Int) s.err s.done b (.slice va s.tr.length vc)) := HX4.out.bel hb5
  have HP5 : Hid (PlB w5 w.heap.size (.pointer (some ⟨D, 0, none⟩)) m r f F g) := HP4.out.bel hb5
  have HO5 : Hid (OpB w5 (w.heap.size + 1) k S) := HO4.out.bel hb5
  have HR5 : Hid (PlB w5 (w.heap.size + 1 + 1) (.pointer none) 0 0 0 ⟨#[]⟩ false) := HR4.out.bel hb5
  have HB5 : Hid (Below w.heap.size w w5) := bel_trans HB4.out hb5
  have HT5 : Hid (OwnF 78 w2.heap.size (.slice va s.tr.length vc) s.tr w5) := HT4.out.below hb5
  have HD5 : Hid (Dec w5 D s bs) := HPl.out.dec.below HB5.out
  obtain ⟨x0, x1, x2, x3, x4⟩ := HX5.out.c
  obtain ⟨p0, p1, p2, p3, p4, p5⟩ := HP5.out.c
  obtain ⟨r0, r1, r2, r3, r4, r5⟩ := HR5.out.c
  have f0 := HR5.out.f 0
  have f1 := HR5.out.f 1
  have f2 := HR5.out.f 2
  have f3 := HR5.out.f 3
  have f4 := HR5.out.f 4
  have f5 := HR5.out.f 5
  have hsz5 := HR5.out.lt
  have hs5x := HX5.out.lt
  clear hb5 o0 o1 hne3 hne4 hlt31
  have q1 : (s.err == s.err) = true := by simp
  have hS5 : w5.cell? ⟨w.heap.size, 0, none⟩ = some (.pointer (some ⟨D, 0, none⟩)) ∧ w5.cell? ⟨w.heap.size, 1, none⟩ = some (.int .i64 m) ∧ w5.cell? ⟨w.heap.size, 2, none⟩ = some (.int .i64 r) ∧ w5.cell? ⟨w.heap.size, 3, none⟩ = some (.int .i64 f) ∧ w5.cell? ⟨w.heap.size, 4, none⟩ = some (.string F) ∧ w5.cell? ⟨w.heap.size, 5, none⟩ = some (.bool g) ∧ w5.cell? ⟨w3.heap.size, 1, none⟩ = some (.int .i64 s.err) := ⟨p0, p1, p2, p3, p4, p5, x1⟩
  have HS5 : Hid (w5.cell? ⟨w.heap.size, 0, none⟩ = some (.pointer (some ⟨D, 0, none⟩)) ∧ w5.cell? ⟨w.heap.size, 1, none⟩ = some (.int .i64 m) ∧ w5.cell? ⟨w.heap.size, 2, none⟩ = some (.int .i64 r) ∧ w5.cell? ⟨w.heap.size, 3, none⟩ = some (.int .i64 f) ∧ w5.cell? ⟨w.heap.size, 4, none⟩ = some (.string F) ∧ w5.cell? ⟨w.heap.size, 5, none⟩ = some (.bool g) ∧ w5.cell? ⟨w3.heap.size, 1, none⟩ = some (.int .i64 s.err)) := hS5
  have HKd : Hid (∀ W : World, (W.cell? ⟨w.heap.size, 0, none⟩ = some (.pointer (some ⟨D, 0, none⟩)) ∧ W.cell? ⟨w.heap.size, 1, none⟩ = some (.int .i64 m) ∧ W.cell? ⟨w.heap.size, 2, none⟩ = some (.int .i64 r) ∧ W.cell? ⟨w.heap.size, 3, none⟩ = some (.int .i64 f) ∧ W.cell? ⟨w.heap.size, 4, none⟩ = some (.string F) ∧ W.cell? ⟨w.heap.size, 5, none⟩ = some (.bool g) ∧ W.cell? ⟨w3.heap.size, 1, none⟩ = some (.int .i64 s.err)) → (W.drew.cell? ⟨w.heap.size, 0, none⟩ = some (.pointer (some ⟨D, 0, none⟩)) ∧ W.drew.cell? ⟨w.heap.size, 1, none⟩ = some (.int .i64 m) ∧ W.drew.cell? ⟨w.heap.size, 2, none⟩ = some (.int .i64 r) ∧ W.drew.cell? ⟨w.heap.size, 3, none⟩ = some (.int .i64 f) ∧ W.drew.cell? ⟨w.heap.size, 4, none⟩ = some (.string F) ∧ W.drew.cell? ⟨w.heap.size, 5, none⟩ = some (.bool g) ∧ W.drew.cell? ⟨w3.heap.size, 1, none⟩ = some (.int .i64 s.err))) := fun W h => h
  have HKs : Hid (∀ (W : World) (i : Nat) (v : Value), (W.cell? ⟨w.heap.size, 0, none⟩ = some (.pointer (some ⟨D, 0, none⟩)) ∧ W.cell? ⟨w.heap.size, 1, none⟩ = some (.int .i64 m) ∧ W.cell? ⟨w.heap.size, 2, none⟩ = some (.int .i64 r) ∧ W.cell? ⟨w.heap.size, 3, none⟩ = some (.int .i64 f) ∧ W.cell? ⟨w.heap.size, 4, none⟩ = some (.string F) ∧ W.cell? ⟨w.heap.size, 5, none⟩ = some (.bool g) ∧ W.cell? ⟨w3.heap.size, 1, none⟩ = some (.int .i64 s.err)) → ((W.setCell ⟨w.heap.size + 1 + 1, i, none⟩ v).cell? ⟨w.heap.size, 0, none⟩ = some (.pointer (some ⟨D, 0, none⟩)) ∧ (W.setCell ⟨w.heap.size + 1 + 1, i, none⟩ v).cell? ⟨w.heap.size, 1, none⟩ = some (.int .i64 m) ∧ (W.setCell ⟨w.heap.size + 1 + 1, i, none⟩ v).cell? ⟨w.heap.size, 2, none⟩ = some (.int .i64 r) ∧ (W.setCell ⟨w.heap.size + 1 + 1, i, none⟩ v).cell? ⟨w.heap.size, 3, none⟩ = some (.int .i64 f) ∧ (W.setCell ⟨w.heap.size + 1 + 1, i, none⟩ v).cell? ⟨w.heap.size, 4, none⟩ = some (.string F) ∧ (W.setCell ⟨w.heap.size + 1 + 1, i, none⟩ v).cell? ⟨w.heap.size, 5, none⟩ = some (.bool g) ∧ (W.setCell ⟨w.heap.size + 1 + 1, i, none⟩ v).cell? ⟨w3.heap.size, 1, none⟩ = some (.int .i64 s.err))) := fun W i v h => by
    obtain ⟨h0, h1, h2, h3, h4, h5, h6⟩ := h
    refine ⟨?_, ?_, ?_, ?_, ?_, ?_, ?_⟩
    all_goals
      rw [World.cell?_of_block (w := W) (heap_setCell_other W _ _ _ (by simp; try omega))]
      assumption
  have HD5d : Hid (Dec w5.drew D s bs) := HD5.out.below ((Below.refl _ _).drew)
  clear hS5
  go_wp2_with fail
  go_region_held3 (fun W => W.cell? ⟨w.heap.size, 0, none⟩ = some (.pointer (some ⟨D, 0, none⟩)) ∧ W.cell? ⟨w.heap.size, 1, none⟩ = some (.int .i64 m) ∧ W.cell? ⟨w.heap.size, 2, none⟩ = some (.int .i64 r) ∧ W.cell? ⟨w.heap.size, 3, none⟩ = some (.int .i64 f) ∧ W.cell? ⟨w.heap.size, 4, none⟩ = some (.string F) ∧ W.cell? ⟨w.heap.size, 5, none⟩ = some (.bool g) ∧ W.cell? ⟨w3.heap.size, 1, none⟩ = some (.int .i64 s.err)) (first | with_reducible exact HS5.out | ((try with_reducible refine HKd.out _ ?_); (repeat (with_reducible refine HKs.out _ _ _ ?_)); with_reducible exact HS5.out)) (first | (go_at_call 30; refine (Err_any HD5d.out).mono ?_; rintro x w6 ⟨rfl, hw6⟩; rw [hw6]; clear hw6))
  go_wp2
  refine bodyPost_ret (v := .tuple #[.agg #[.pointer (some ⟨D, 0, none⟩), .int .i64 m, .int .i64 r, .int .i64 f, .string F, .bool g], .bool true]) (by simp [results, Tryz.results16, go_sem, r0, r1, r2, r3, r4, r5]) rfl ?_
  have hbb : Below w.heap.size w w5 := HB5.out
  refine ⟨F, g, s, bs, rfl, ⟨HPl.out.dec.below ?_, HPl.out.fed, HPl.out.gone⟩, Goes.below ?_, Nat.le_add_right _ _⟩
  all_goals
    (try (with_reducible refine Below.drew ?_))
    repeat (refine Below.setCell ?_ (by show w.heap.size ≤ w.heap.size + 1 + 1; omega) _)
    exact hbb

end Ck
end Go.Proofs.YtdbnlpnnfnodnaaGreatDoor

/-
  A decoder that is played: one step, by its kind.
-/
set_option linter.unusedVariables false
set_option linter.unusedSimpArgs false
set_option maxRecDepth 100000
namespace Go.Proofs.YtdbnlpnnfnodnaaGreatDoor
open Go.RowKit Go.Shelf
namespace Ck
open Oc Tg _root_.Go.Proofs.YtdbnlpnnfnodnaaGreatDoor.Fd

set_option maxHeartbeats 4000000 in
theorem step_3 {w0 w : World} {D : Nat} {m r f : Int} {F : ByteArray} {g : Bool} {s : DS} {bs : List Nat} (hbase : Base w0 w bs) (hpl : Play w D m r f F g s bs) (hm0 : 0 ≤ m) (hm1 : m ≤ 9223372036854775807) (hr0 : 0 ≤ r) (hr1 : r ≤ 9223372036854775807) (hf0 : 0 ≤ f) (hf1 : f ≤ 9223372036854775807) (k : Int) (hk0 : -9223372036854775808 ≤ k) (hk1 : k ≤ 9223372036854775807) (S : ByteArray) (hsF : F.size + S.size ≤ 1048576) (hkj : kindN k 6 = 3) :
    Calls Tryz.prog 16 #[.agg #[.pointer (some ⟨D, 0, none⟩), .int .i64 m, .int .i64 r, .int .i64 f, .string F, .bool g], .agg #[.int .i64 k, .string S]] w (StepP w D m r f F S bs) := by
  have HKJ : Hid (kindN k 6 = 3) := hkj
  clear hkj
  obtain ⟨W1, W2, W3, hB⟩ := three_blocks w (.pointer (some ⟨D, 0, none⟩)) m r f F g k S
  obtain ⟨w2, hw2⟩ : ∃ w2, w2 = ((w.alloc (.cells #[.pointer (some ⟨D, 0, none⟩), .int .i64 m, .int .i64 r, .int .i64 f, .string F, .bool g] 49)).alloc (.cells #[.int .i64 k, .string S] 53)).alloc (.cells #[.pointer none, .int .i64 0, .int .i64 0, .int .i64 0, .string ⟨#[]⟩, .bool false] 49) := ⟨_, rfl⟩
  rw [← hw2] at W1 W2 W3 hB
  have HW2 : Hid (w2 = ((w.alloc (.cells #[.pointer (some ⟨D, 0, none⟩), .int .i64 m, .int .i64 r, .int .i64 f, .string F, .bool g] 49)).alloc (.cells #[.int .i64 k, .string S] 53)).alloc (.cells #[.pointer none, .int .i64 0, .int .i64 0, .int .i64 0, .string ⟨#[]⟩, .bool false] 49)) := hw2
  have HB2 : Hid (Below w.heap.size w w2) := hB
  have HP2 : Hid (PlB w2 w.heap.size (.pointer (some ⟨D, 0, none⟩)) m r f F g) := W1
  have HO2 : Hid (OpB w2 (w.heap.size + 1) k S) := W2
  have HR2 : Hid (PlB w2 (w.heap.size + 1 + 1) (.pointer none) 0 0 0 ⟨#[]⟩ false) := W3
  have HWk : Hid (∀ w, Calls Tryz.prog 27 #[.agg #[.pointer (some ⟨D, 0, none⟩), .int .i64 m, .int .i64 r, .int .i64 f, .string F, .bool g]] w fun x w' => ∃ (n : Nat) (e : Int) (d : Bool) (b : ByteArray) (t : List Fl) (v : Value), x = .returned (wkV (n : Int) e d b v) ∧ Sees (eat (new m r f) F.data.toList) n e d b.data.toList t ∧ OwnF 78 w.heap.size v t w' ∧ Below w.heap.size w w') := fun w => pwalk_some D m r f hm0 hm1 hr0 hr1 hf0 hf1 F (by omega) g w
  have HPl : Hid (Play w D m r f F g s bs) := hpl
  have HBs : Hid (Base w0 w bs) := hbase
  obtain ⟨p0, p1, p2, p3, p4, p5⟩ := W1.c
  obtain ⟨o0, o1⟩ := W2.c
  have HLt : Hid (∀ x, x ∈ bs → x < w.heap.size) := hpl.dec.lt
  have hszF : s.tr.length ≤ F.size := by have := hpl.fed.ok.len; rw [size_list] at this; omega
  clear hw2 hB W1 W2 W3 hpl hbase
  go_enter Tryz.func16, Tryz.ntmps16
  go_wp2_with fail
  try rw [← HW2.out]
  try go_wp2_with fail
  refine (HWk.out _).mono ?_
  rintro x w3 ⟨n, e, d, b, t, v, rfl, hsee, hown, hb3⟩
  rw [← size_list F] at hsF
  obtain ⟨rfl, rfl, rfl, hbb, rfl⟩ := HPl.out.fed.sees hsee
  obtain ⟨va, vc, hv⟩ := OwnF.form hown
  subst hv
  rw [size_list] at hsF ⊢
  have HP3 : Hid (PlB w3 w.heap.size (.pointer (some ⟨D, 0, none⟩)) m r f F g) := HP2.out.bel hb3
  have HO3 : Hid (OpB w3 (w.heap.size + 1) k S) := HO2.out.bel hb3
  have HR3 : Hid (PlB w3 (w.heap.size + 1 + 1) (.pointer none) 0 0 0 ⟨#[]⟩ false) := HR2.out.bel hb3
  have HB3 : Hid (Below w.heap.size w w3) := bel_trans HB2.out hb3
  have HT3 : Hid (OwnF 78 w2.heap.size (.slice va s.tr.length vc) s.tr w3) := hown
  have HBB : Hid (b = str s.body) := (eq_list (by rw [str_list]; exact hbb) : b = str s.body)
  clear hsee hown hb3 hbb p0 p1 p2 p3 p4 p5 o0 o1
  unfold wkV
  obtain ⟨w4, hw4⟩ : ∃ w4, w4 = w3.alloc (.cells #[.int .i64 (F.size : Int), .int .i64 s.err, .bool s.done, .string b, .slice va s.tr.length vc] 74) := ⟨_, rfl⟩
  have hA4 : Below w3.heap.size w3 w4 := by rw [hw4]; exact (Below.refl _ _).alloc (Nat.le_refl _) _
  have HX4 : Hid (WB w4 w3.heap.size (F.size : Int) s.err s.done b (.slice va s.tr.length vc)) := (by rw [hw4]; exact heap_alloc_new _ _ : WB w4 w3.heap.size (F.size : Int) s.err s.done b (.slice va s.tr.length vc))
  have HW4 : Hid (w4 = w3.alloc (.cells #[.int .i64 (F.size : Int), .int .i64 s.err, .bool s.done, .string b, .slice va s.tr.length vc] 74)) := hw4
  have HP4 : Hid (PlB w4 w.heap.size (.pointer (some ⟨D, 0, none⟩)) m r f F g) := HP3.out.bel hA4
  have HO4 : Hid (OpB w4 (w.heap.size + 1) k S) := HO3.out.bel hA4
  have HR4 : Hid (PlB w4 (w.heap.size + 1 + 1) (.pointer none) 0 0 0 ⟨#[]⟩ false) := HR3.out.bel hA4
  have HB4 : Hid (Below w.heap.size w w4) := bel_trans HB3.out hA4
  have HT4 : Hid (OwnF 78 w2.heap.size (.slice va s.tr.length vc) s.tr w4) := HT3.out.below hA4
  obtain ⟨o0, o1⟩ := HO3.out.c
  have hlt31 : w.heap.size + 1 < w3.heap.size := by have := HR3.out.lt; omega
  have hne3 : w.heap.size + 1 ≠ w3.heap.size := by have := HR3.out.lt; omega
  have hne4 : w3.heap.size ≠ w.heap.size + 1 := by have := HR3.out.lt; omega
  have hlt3 := HR3.out.lt
  clear hw4 hA4
  go_wp2_with fail
  rw [← HW4.out]
  refine (kind_is w4 k 6 hk0 hk1 (by omega) (by omega)).mono ?_
  rintro x w5 ⟨rfl, hb5⟩
  rw [HKJ.out]
  have HX5 : Hid (WB w5 w3.heap.size (F.size : Int) s.err s.done b (.slice va s.tr.length vc)) := HX4.out.bel hb5
  have HP5 : Hid (PlB w5 w.heap.size (.pointer (some ⟨D, 0, none⟩)) m r f F g) := HP4.out.bel hb5
  have HO5 : Hid (OpB w5 (w.heap.size + 1) k S) := HO4.out.bel hb5
  have HR5 : Hid (PlB w5 (w.heap.size + 1 + 1) (.pointer none) 0 0 0 ⟨#[]⟩ false) := HR4.out.bel hb5
  have HB5 : Hid (Below w.heap.size w w5) := bel_trans HB4.out hb5
  have HT5 : Hid (OwnF 78 w2.heap.size (.slice va s.tr.length vc) s.tr w5) := HT4.out.below hb5
  have HD5 : Hid (Dec w5 D s bs) := HPl.out.dec.below HB5.out
  obtain ⟨x0, x1, x2, x3, x4⟩ := HX5.out.c
  obtain ⟨p0, p1, p2, p3, p4, p5⟩ := HP5.out.c
  obtain ⟨r0, r1, r2, r3, r4, r5⟩ := HR5.out.c
  have f0 := HR5.out.f 0
  have f1 := HR5.out.f 1
  have f2 := HR5.out.f 2
  have f3 := HR5.out.f 3
  have f4 := HR5.out.f 4
  have f5 := HR5.out.f 5
  have hsz5 := HR5.out.lt
  have hs5x := HX5.out.lt
  clear hb5 o0 o1 hne3 hne4 hlt31
  rw [HBB.out] at x3
  have HX3 : Hid (b = str s.body) := HBB
  have q1 : ((str s.body).toList == (str s.body).toList) = true := by simp
  have hS5 : w5.cell? ⟨w.heap.size, 0, none⟩ = some (.pointer (some ⟨D, 0, none⟩)) ∧ w5.cell? ⟨w.heap.size, 1, none⟩ = some (.int .i64 m) ∧ w5.cell? ⟨w.heap.size, 2, none⟩ = some (.int .i64 r) ∧ w5.cell? ⟨w.heap.size, 3, none⟩ = some (.int .i64 f) ∧ w5.cell? ⟨w.heap.size, 4, none⟩ = some (.string F) ∧ w5.cell? ⟨w.heap.size, 5, none⟩ = some (.bool g) ∧ w5.cell? ⟨w3.heap.size, 3, none⟩ = some (.string (str s.body)) := ⟨p0, p1, p2, p3, p4, p5, x3⟩
  have HS5 : Hid (w5.cell? ⟨w.heap.size, 0, none⟩ = some (.pointer (some ⟨D, 0, none⟩)) ∧ w5.cell? ⟨w.heap.size, 1, none⟩ = some (.int .i64 m) ∧ w5.cell? ⟨w.heap.size, 2, none⟩ = some (.int .i64 r) ∧ w5.cell? ⟨w.heap.size, 3, none⟩ = some (.int .i64 f) ∧ w5.cell? ⟨w.heap.size, 4, none⟩ = some (.string F) ∧ w5.cell? ⟨w.heap.size, 5, none⟩ = some (.bool g) ∧ w5.cell? ⟨w3.heap.size, 3, none⟩ = some (.string (str s.body))) := hS5
  have HKd : Hid (∀ W : World, (W.cell? ⟨w.heap.size, 0, none⟩ = some (.pointer (some ⟨D, 0, none⟩)) ∧ W.cell? ⟨w.heap.size, 1, none⟩ = some (.int .i64 m) ∧ W.cell? ⟨w.heap.size, 2, none⟩ = some (.int .i64 r) ∧ W.cell? ⟨w.heap.size, 3, none⟩ = some (.int .i64 f) ∧ W.cell? ⟨w.heap.size, 4, none⟩ = some (.string F) ∧ W.cell? ⟨w.heap.size, 5, none⟩ = some (.bool g) ∧ W.cell? ⟨w3.heap.size, 3, none⟩ = some (.string (str s.body))) → (W.drew.cell? ⟨w.heap.size, 0, none⟩ = some (.pointer (some ⟨D, 0, none⟩)) ∧ W.drew.cell? ⟨w.heap.size, 1, none⟩ = some (.int .i64 m) ∧ W.drew.cell? ⟨w.heap.size, 2, none⟩ = some (.int .i64 r) ∧ W.drew.cell? ⟨w.heap.size, 3, none⟩ = some (.int .i64 f) ∧ W.drew.cell? ⟨w.heap.size, 4, none⟩ = some (.string F) ∧ W.drew.cell? ⟨w.heap.size, 5, none⟩ = some (.bool g) ∧ W.drew.cell? ⟨w3.heap.size, 3, none⟩ = some (.string (str s.body)))) := fun W h => h
  have HKs : Hid (∀ (W : World) (i : Nat) (v : Value), (W.cell? ⟨w.heap.size, 0, none⟩ = some (.pointer (some ⟨D, 0, none⟩)) ∧ W.cell? ⟨w.heap.size, 1, none⟩ = some (.int .i64 m) ∧ W.cell? ⟨w.heap.size, 2, none⟩ = some (.int .i64 r) ∧ W.cell? ⟨w.heap.size, 3, none⟩ = some (.int .i64 f) ∧ W.cell? ⟨w.heap.size, 4, none⟩ = some (.string F) ∧ W.cell? ⟨w.heap.size, 5, none⟩ = some (.bool g) ∧ W.cell? ⟨w3.heap.size, 3, none⟩ = some (.string (str s.body))) → ((W.setCell ⟨w.heap.size + 1 + 1, i, none⟩ v).cell? ⟨w.heap.size, 0, none⟩ = some (.pointer (some ⟨D, 0, none⟩)) ∧ (W.setCell ⟨w.heap.size + 1 + 1, i, none⟩ v).cell? ⟨w.heap.size, 1, none⟩ = some (.int .i64 m) ∧ (W.setCell ⟨w.heap.size + 1 + 1, i, none⟩ v).cell? ⟨w.heap.size, 2, none⟩ = some (.int .i64 r) ∧ (W.setCell ⟨w.heap.size + 1 + 1, i, none⟩ v).cell? ⟨w.heap.size, 3, none⟩ = some (.int .i64 f) ∧ (W.setCell ⟨w.heap.size + 1 + 1, i, none⟩ v).cell? ⟨w.heap.size, 4, none⟩ = some (.string F) ∧ (W.setCell ⟨w.heap.size + 1 + 1, i, none⟩ v).cell? ⟨w.heap.size, 5, none⟩ = some (.bool g) ∧ (W.setCell ⟨w.heap.size + 1 + 1, i, none⟩ v).cell? ⟨w3.heap.size, 3, none⟩ = some (.string (str s.body)))) := fun W i v h => by
    obtain ⟨h0, h1, h2, h3, h4, h5, h6⟩ := h
    refine ⟨?_, ?_, ?_, ?_, ?_, ?_, ?_⟩
    all_goals
      rw [World.cell?_of_block (w := W) (heap_setCell_other W _ _ _ (by simp; try omega))]
      assumption
  have HD5d : Hid (Dec w5.drew D s bs) := HD5.out.below ((Below.refl _ _).drew)
  clear hS5
  go_wp2_with fail
  go_region_held3 (fun W => W.cell? ⟨w.heap.size, 0, none⟩ = some (.pointer (some ⟨D, 0, none⟩)) ∧ W.cell? ⟨w.heap.size, 1, none⟩ = some (.int .i64 m) ∧ W.cell? ⟨w.heap.size, 2, none⟩ = some (.int .i64 r) ∧ W.cell? ⟨w.heap.size, 3, none⟩ = some (.int .i64 f) ∧ W.cell? ⟨w.heap.size, 4, none⟩ = some (.string F) ∧ W.cell? ⟨w.heap.size, 5, none⟩ = some (.bool g) ∧ W.cell? ⟨w3.heap.size, 3, none⟩ = some (.string (str s.body))) (first | with_reducible exact HS5.out | ((try with_reducible refine HKd.out _ ?_); (repeat (with_reducible refine HKs.out _ _ _ ?_)); with_reducible exact HS5.out)) (first | (go_at_call 23; refine (Body_any HD5d.out).mono ?_; rintro x w6 ⟨rfl, hw6⟩; rw [hw6]; clear hw6))
  go_wp2
  refine bodyPost_ret (v := .tuple #[.agg #[.pointer (some ⟨D, 0, none⟩), .int .i64 m, .int .i64 r, .int .i64 f, .string F, .bool g], .bool true]) (by simp [results, Tryz.results16, go_sem, r0, r1, r2, r3, r4, r5]) rfl ?_
  have hbb : Below w.heap.size w w5 := HB5.out
  refine ⟨F, g, s, bs, rfl, ⟨HPl.out.dec.below ?_, HPl.out.fed, HPl.out.gone⟩, Goes.below ?_, Nat.le_add_right _ _⟩
  all_goals
    (try (with_reducible refine Below.drew ?_))
    repeat (refine Below.setCell ?_ (by show w.heap.size ≤ w.heap.size + 1 + 1; omega) _)
    exact hbb

end Ck
end Go.Proofs.YtdbnlpnnfnodnaaGreatDoor

/-
  A decoder that is played: one step, by its kind.
-/
set_option linter.unusedVariables false
set_option linter.unusedSimpArgs false
set_option maxRecDepth 100000
namespace Go.Proofs.YtdbnlpnnfnodnaaGreatDoor
open Go.RowKit Go.Shelf
namespace Ck
open Oc Tg _root_.Go.Proofs.YtdbnlpnnfnodnaaGreatDoor.Fd

set_option maxHeartbeats 4000000 in
theorem step_4 {w0 w : World} {D : Nat} {m r f : Int} {F : ByteArray} {g : Bool} {s : DS} {bs : List Nat} (hbase : Base w0 w bs) (hpl : Play w D m r f F g s bs) (hm0 : 0 ≤ m) (hm1 : m ≤ 9223372036854775807) (hr0 : 0 ≤ r) (hr1 : r ≤ 9223372036854775807) (hf0 : 0 ≤ f) (hf1 : f ≤ 9223372036854775807) (k : Int) (hk0 : -9223372036854775808 ≤ k) (hk1 : k ≤ 9223372036854775807) (S : ByteArray) (hsF : F.size + S.size ≤ 1048576) (hkj : kindN k 6 = 4) :
    Calls Tryz.prog 16 #[.agg #[.pointer (some ⟨D, 0, none⟩), .int .i64 m, .int .i64 r, .int .i64 f, .string F, .bool g], .agg #[.int .i64 k, .string S]] w (StepP w D m r f F S bs) := by
  have HKJ : Hid (kindN k 6 = 4) := hkj
  clear hkj
  obtain ⟨W1, W2, W3, hB⟩ := three_blocks w (.pointer (some ⟨D, 0, none⟩)) m r f F g k S
  obtain ⟨w2, hw2⟩ : ∃ w2, w2 = ((w.alloc (.cells #[.pointer (some ⟨D, 0, none⟩), .int .i64 m, .int .i64 r, .int .i64 f, .string F, .bool g] 49)).alloc (.cells #[.int .i64 k, .string S] 53)).alloc (.cells #[.pointer none, .int .i64 0, .int .i64 0, .int .i64 0, .string ⟨#[]⟩, .bool false] 49) := ⟨_, rfl⟩
  rw [← hw2] at W1 W2 W3 hB
  have HW2 : Hid (w2 = ((w.alloc (.cells #[.pointer (some ⟨D, 0, none⟩), .int .i64 m, .int .i64 r, .int .i64 f, .string F, .bool g] 49)).alloc (.cells #[.int .i64 k, .string S] 53)).alloc (.cells #[.pointer none, .int .i64 0, .int .i64 0, .int .i64 0, .string ⟨#[]⟩, .bool false] 49)) := hw2
  have HB2 : Hid (Below w.heap.size w w2) := hB
  have HP2 : Hid (PlB w2 w.heap.size (.pointer (some ⟨D, 0, none⟩)) m r f F g) := W1
  have HO2 : Hid (OpB w2 (w.heap.size + 1) k S) := W2
  have HR2 : Hid (PlB w2 (w.heap.size + 1 + 1) (.pointer none) 0 0 0 ⟨#[]⟩ false) := W3
  have HWk : Hid (∀ w, Calls Tryz.prog 27 #[.agg #[.pointer (some ⟨D, 0, none⟩), .int .i64 m, .int .i64 r, .int .i64 f, .string F, .bool g]] w fun x w' => ∃ (n : Nat) (e : Int) (d : Bool) (b : ByteArray) (t : List Fl) (v : Value), x = .returned (wkV (n : Int) e d b v) ∧ Sees (eat (new m r f) F.data.toList) n e d b.data.toList t ∧ OwnF 78 w.heap.size v t w' ∧ Below w.heap.size w w') := fun w => pwalk_some D m r f hm0 hm1 hr0 hr1 hf0 hf1 F (by omega) g w
  have HPl : Hid (Play w D m r f F g s bs) := hpl
  have HBs : Hid (Base w0 w bs) := hbase
  obtain ⟨p0, p1, p2, p3, p4, p5⟩ := W1.c
  obtain ⟨o0, o1⟩ := W2.c
  have HLt : Hid (∀ x, x ∈ bs → x < w.heap.size) := hpl.dec.lt
  have hszF : s.tr.length ≤ F.size := by have := hpl.fed.ok.len; rw [size_list] at this; omega
  clear hw2 hB W1 W2 W3 hpl hbase
  go_enter Tryz.func16, Tryz.ntmps16
  go_wp2_with fail
  try rw [← HW2.out]
  try go_wp2_with fail
  refine (HWk.out _).mono ?_
  rintro x w3 ⟨n, e, d, b, t, v, rfl, hsee, hown, hb3⟩
  rw [← size_list F] at hsF
  obtain ⟨rfl, rfl, rfl, hbb, rfl⟩ := HPl.out.fed.sees hsee
  obtain ⟨va, vc, hv⟩ := OwnF.form hown
  subst hv
  rw [size_list] at hsF ⊢
  have HP3 : Hid (PlB w3 w.heap.size (.pointer (some ⟨D, 0, none⟩)) m r f F g) := HP2.out.bel hb3
  have HO3 : Hid (OpB w3 (w.heap.size + 1) k S) := HO2.out.bel hb3
  have HR3 : Hid (PlB w3 (w.heap.size + 1 + 1) (.pointer none) 0 0 0 ⟨#[]⟩ false) := HR2.out.bel hb3
  have HB3 : Hid (Below w.heap.size w w3) := bel_trans HB2.out hb3
  have HT3 : Hid (OwnF 78 w2.heap.size (.slice va s.tr.length vc) s.tr w3) := hown
  have HBB : Hid (b = str s.body) := (eq_list (by rw [str_list]; exact hbb) : b = str s.body)
  clear hsee hown hb3 hbb p0 p1 p2 p3 p4 p5 o0 o1
  unfold wkV
  obtain ⟨w4, hw4⟩ : ∃ w4, w4 = w3.alloc (.cells #[.int .i64 (F.size : Int), .int .i64 s.err, .bool s.done, .string b, .slice va s.tr.length vc] 74) := ⟨_, rfl⟩
  have hA4 : Below w3.heap.size w3 w4 := by rw [hw4]; exact (Below.refl _ _).alloc (Nat.le_refl _) _
  have HX4 : Hid (WB w4 w3.heap.size (F.size : Int) s.err s.done b (.slice va s.tr.length vc)) := (by rw [hw4]; exact heap_alloc_new _ _ : WB w4 w3.heap.size (F.size : Int) s.err s.done b (.slice va s.tr.length vc))
  have HW4 : Hid (w4 = w3.alloc (.cells #[.int .i64 (F.size : Int), .int .i64 s.err, .bool s.done, .string b, .slice va s.tr.length vc] 74)) := hw4
  have HP4 : Hid (PlB w4 w.heap.size (.pointer (some ⟨D, 0, none⟩)) m r f F g) := HP3.out.bel hA4
  have HO4 : Hid (OpB w4 (w.heap.size + 1) k S) := HO3.out.bel hA4
  have HR4 : Hid (PlB w4 (w.heap.size + 1 + 1) (.pointer none) 0 0 0 ⟨#[]⟩ false) := HR3.out.bel hA4
  have HB4 : Hid (Below w.heap.size w w4) := bel_trans HB3.out hA4
  have HT4 : Hid (OwnF 78 w2.heap.size (.slice va s.tr.length vc) s.tr w4) := HT3.out.below hA4
  obtain ⟨o0, o1⟩ := HO3.out.c
  have hlt31 : w.heap.size + 1 < w3.heap.size := by have := HR3.out.lt; omega
  have hne3 : w.heap.size + 1 ≠ w3.heap.size := by have := HR3.out.lt; omega
  have hne4 : w3.heap.size ≠ w.heap.size + 1 := by have := HR3.out.lt; omega
  have hlt3 := HR3.out.lt
  clear hw4 hA4
  go_wp2_with fail
  rw [← HW4.out]
  refine (kind_is w4 k 6 hk0 hk1 (by omega) (by omega)).mono ?_
  rintro x w5 ⟨rfl, hb5⟩
  rw [HKJ.out]
  have HX5 : Hid (WB w5 w3.heap.size (F.size : Int) s.err s.done b (.slice va s.tr.length vc)) := HX4.out.bel hb5
  have HP5 : Hid (PlB w5 w.heap.size (.pointer (some ⟨D, 0, none⟩)) m r f F g) := HP4.out.bel hb5
  have HO5 : Hid (OpB w5 (w.heap.size + 1) k S) := HO4.out.bel hb5
  have HR5 : Hid (PlB w5 (w.heap.size + 1 + 1) (.pointer none) 0 0 0 ⟨#[]⟩ false) := HR4.out.bel hb5
  have HB5 : Hid (Below w.heap.size w w5) := bel_trans HB4.out hb5
  have HT5 : Hid (OwnF 78 w2.heap.size (.slice va s.tr.length vc) s.tr w5) := HT4.out.below hb5
  have HD5 : Hid (Dec w5 D s bs) := HPl.out.dec.below HB5.out
  obtain ⟨x0, x1, x2, x3, x4⟩ := HX5.out.c
  obtain ⟨p0, p1, p2, p3, p4, p5⟩ := HP5.out.c
  obtain ⟨r0, r1, r2, r3, r4, r5⟩ := HR5.out.c
  have f0 := HR5.out.f 0
  have f1 := HR5.out.f 1
  have f2 := HR5.out.f 2
  have f3 := HR5.out.f 3
  have f4 := HR5.out.f 4
  have f5 := HR5.out.f 5
  have hsz5 := HR5.out.lt
  have hs5x := HX5.out.lt
  clear hb5 o0 o1 hne3 hne4 hlt31
  have hS5 : w5.cell? ⟨w.heap.size, 0, none⟩ = some (.pointer (some ⟨D, 0, none⟩)) ∧ w5.cell? ⟨w.heap.size, 1, none⟩ = some (.int .i64 m) ∧ w5.cell? ⟨w.heap.size, 2, none⟩ = some (.int .i64 r) ∧ w5.cell? ⟨w.heap.size, 3, none⟩ = some (.int .i64 f) ∧ w5.cell? ⟨w.heap.size, 4, none⟩ = some (.string F) ∧ w5.cell? ⟨w.heap.size, 5, none⟩ = some (.bool g) ∧ w5.cell? ⟨w3.heap.size, 4, none⟩ = some (.slice va s.tr.length vc) := ⟨p0, p1, p2, p3, p4, p5, x4⟩
  have HS5 : Hid (w5.cell? ⟨w.heap.size, 0, none⟩ = some (.pointer (some ⟨D, 0, none⟩)) ∧ w5.cell? ⟨w.heap.size, 1, none⟩ = some (.int .i64 m) ∧ w5.cell? ⟨w.heap.size, 2, none⟩ = some (.int .i64 r) ∧ w5.cell? ⟨w.heap.size, 3, none⟩ = some (.int .i64 f) ∧ w5.cell? ⟨w.heap.size, 4, none⟩ = some (.string F) ∧ w5.cell? ⟨w.heap.size, 5, none⟩ = some (.bool g) ∧ w5.cell? ⟨w3.heap.size, 4, none⟩ = some (.slice va s.tr.length vc)) := hS5
  have HKd : Hid (∀ W : World, (W.cell? ⟨w.heap.size, 0, none⟩ = some (.pointer (some ⟨D, 0, none⟩)) ∧ W.cell? ⟨w.heap.size, 1, none⟩ = some (.int .i64 m) ∧ W.cell? ⟨w.heap.size, 2, none⟩ = some (.int .i64 r) ∧ W.cell? ⟨w.heap.size, 3, none⟩ = some (.int .i64 f) ∧ W.cell? ⟨w.heap.size, 4, none⟩ = some (.string F) ∧ W.cell? ⟨w.heap.size, 5, none⟩ = some (.bool g) ∧ W.cell? ⟨w3.heap.size, 4, none⟩ = some (.slice va s.tr.length vc)) → (W.drew.cell? ⟨w.heap.size, 0, none⟩ = some (.pointer (some ⟨D, 0, none⟩)) ∧ W.drew.cell? ⟨w.heap.size, 1, none⟩ = some (.int .i64 m) ∧ W.drew.cell? ⟨w.heap.size, 2, none⟩ = some (.int .i64 r) ∧ W.drew.cell? ⟨w.heap.size, 3, none⟩ = some (.int .i64 f) ∧ W.drew.cell? ⟨w.heap.size, 4, none⟩ = some (.string F) ∧ W.drew.cell? ⟨w.heap.size, 5, none⟩ = some (.bool g) ∧ W.drew.cell? ⟨w3.heap.size, 4, none⟩ = some (.slice va s.tr.length vc))) := fun W h => h
  have HKs : Hid (∀ (W : World) (i : Nat) (v : Value), (W.cell? ⟨w.heap.size, 0, none⟩ = some (.pointer (some ⟨D, 0, none⟩)) ∧ W.cell? ⟨w.heap.size, 1, none⟩ = some (.int .i64 m) ∧ W.cell? ⟨w.heap.size, 2, none⟩ = some (.int .i64 r) ∧ W.cell? ⟨w.heap.size, 3, none⟩ = some (.int .i64 f) ∧ W.cell? ⟨w.heap.size, 4, none⟩ = some (.string F) ∧ W.cell? ⟨w.heap.size, 5, none⟩ = some (.bool g) ∧ W.cell? ⟨w3.heap.size, 4, none⟩ = some (.slice va s.tr.length vc)) → ((W.setCell ⟨w.heap.size + 1 + 1, i, none⟩ v).cell? ⟨w.heap.size, 0, none⟩ = some (.pointer (some ⟨D, 0, none⟩)) ∧ (W.setCell ⟨w.heap.size + 1 + 1, i, none⟩ v).cell? ⟨w.heap.size, 1, none⟩ = some (.int .i64 m) ∧ (W.setCell ⟨w.heap.size + 1 + 1, i, none⟩ v).cell? ⟨w.heap.size, 2, none⟩ = some (.int .i64 r) ∧ (W.setCell ⟨w.heap.size + 1 + 1, i, none⟩ v).cell? ⟨w.heap.size, 3, none⟩ = some (.int .i64 f) ∧ (W.setCell ⟨w.heap.size + 1 + 1, i, none⟩ v).cell? ⟨w.heap.size, 4, none⟩ = some (.string F) ∧ (W.setCell ⟨w.heap.size + 1 + 1, i, none⟩ v).cell? ⟨w.heap.size, 5, none⟩ = some (.bool g) ∧ (W.setCell ⟨w.heap.size + 1 + 1, i, none⟩ v).cell? ⟨w3.heap.size, 4, none⟩ = some (.slice va s.tr.length vc))) := fun W i v h => by
    obtain ⟨h0, h1, h2, h3, h4, h5, h6⟩ := h
    refine ⟨?_, ?_, ?_, ?_, ?_, ?_, ?_⟩
    all_goals
      rw [World.cell?_of_block (w := W) (heap_setCell_other W _ _ _ (by simp; try omega))]
      assumption
  have HD5d : Hid (Dec w5.drew D s bs) := HD5.out.below ((Below.refl _ _).drew)
  clear hS5
  have HKb : Hid (∀ W : World, Below w5.heap.size w5 W → (W.cell? ⟨w.heap.size, 0, none⟩ = some (.pointer (some ⟨D, 0, none⟩)) ∧ W.cell? ⟨w.heap.size, 1, none⟩ = some (.int .i64 m) ∧ W.cell? ⟨w.heap.size, 2, none⟩ = some (.int .i64 r) ∧ W.cell? ⟨w.heap.size, 3, none⟩ = some (.int .i64 f) ∧ W.cell? ⟨w.heap.size, 4, none⟩ = some (.string F) ∧ W.cell? ⟨w.heap.size, 5, none⟩ = some (.bool g) ∧ W.cell? ⟨w3.heap.size, 4, none⟩ = some (.slice va s.tr.length vc))) := fun W h => by
    obtain ⟨h0, h1, h2, h3, h4, h5, h6⟩ := HS5.out
    exact ⟨(But.of_below h).cell h0 (fun e => by cases e), (But.of_below h).cell h1 (fun e => by cases e), (But.of_below h).cell h2 (fun e => by cases e), (But.of_below h).cell h3 (fun e => by cases e), (But.of_below h).cell h4 (fun e => by cases e), (But.of_below h).cell h5 (fun e => by cases e), (But.of_below h).cell h6 (fun e => by cases e)⟩
  have HRb : Hid (∀ W : World, Below w5.heap.size w5 W → PlB W (w.heap.size + 1 + 1) (.pointer none) 0 0 0 ⟨#[]⟩ false) := fun W h => HR5.out.bel h
  have HRc : Hid (∀ W : World, Below w5.heap.size w5 W → (∀ i, W.frozen? ⟨w.heap.size + 1 + 1, i, none⟩ = false) ∧ W.cell? ⟨w.heap.size + 1 + 1, 0, none⟩ = some (.pointer none) ∧ W.cell? ⟨w.heap.size + 1 + 1, 1, none⟩ = some (.int .i64 0) ∧ W.cell? ⟨w.heap.size + 1 + 1, 2, none⟩ = some (.int .i64 0) ∧ W.cell? ⟨w.heap.size + 1 + 1, 3, none⟩ = some (.int .i64 0) ∧ W.cell? ⟨w.heap.size + 1 + 1, 4, none⟩ = some (.string ⟨#[]⟩) ∧ W.cell? ⟨w.heap.size + 1 + 1, 5, none⟩ = some (.bool false)) := fun W h => ⟨(HRb.out W h).f, (HRb.out W h).c⟩
  have HTr : Hid (∀ W : World, Below w5.heap.size w5 W → Calls Tryz.prog 24 #[.pointer (some ⟨D, 0, none⟩)] W fun e w' => ∃ v, e = .returned v ∧ OwnF 77 W.heap.size v s.tr w' ∧ Below W.heap.size W w') := fun W h => Trailers_any (HD5.out.below h) (by omega)
  have HBn : Hid (Below w5.heap.size w5 w5.drew) := (Below.refl _ _).drew
  go_wp2_with fail
  go_region_held3 (fun W => W.cell? ⟨w.heap.size, 0, none⟩ = some (.pointer (some ⟨D, 0, none⟩)) ∧ W.cell? ⟨w.heap.size, 1, none⟩ = some (.int .i64 m) ∧ W.cell? ⟨w.heap.size, 2, none⟩ = some (.int .i64 r) ∧ W.cell? ⟨w.heap.size, 3, none⟩ = some (.int .i64 f) ∧ W.cell? ⟨w.heap.size, 4, none⟩ = some (.string F) ∧ W.cell? ⟨w.heap.size, 5, none⟩ = some (.bool g) ∧ W.cell? ⟨w3.heap.size, 4, none⟩ = some (.slice va s.tr.length vc)) (first | with_reducible exact HS5.out | with_reducible exact HKb.out _ HBn.out | ((try with_reducible refine HKd.out _ ?_); (repeat (with_reducible refine HKs.out _ _ _ ?_)); with_reducible exact HKb.out _ HBn.out)) (first | (go_at_call 24; refine (HTr.out _ HBn.out).mono ?_; rintro x w6 ⟨vt, rfl, ho6, hb6⟩; have HBn : Hid (Below w5.heap.size w5 w6) := bel_trans HBn.out hb6; have HT6 : Hid (RdF vt s.tr w6) := ho6.rd; have HU6 : Hid (OwnF 78 w2.heap.size (.slice va s.tr.length vc) s.tr w6) := HT5.out.below HBn.out; clear ho6 hb6) | (go_at_call 14; refine (same_any vt (.slice va s.tr.length vc) s.tr w6 HT6.out HU6.out.rd (by omega)).mono ?_; rintro x w7 ⟨rfl, hb7⟩; have HBn : Hid (Below w5.heap.size w5 w7) := bel_trans HBn.out hb7; obtain ⟨yf, y0, y1, y2, y3, y4, y5⟩ := HRc.out _ HBn.out; have yf0 := yf 0; have yf1 := yf 1; have yf2 := yf 2; have yf3 := yf 3; have yf4 := yf 4; have yf5 := yf 5; clear yf hb7))
  go_wp2
  refine bodyPost_ret (v := .tuple #[.agg #[.pointer (some ⟨D, 0, none⟩), .int .i64 m, .int .i64 r, .int .i64 f, .string F, .bool g], .bool true]) (by simp [results, Tryz.results16, go_sem, y0, y1, y2, y3, y4, y5]) rfl ?_
  have hbb : Below w.heap.size w w7 := bel_trans HB5.out HBn.out
  refine ⟨F, g, s, bs, rfl, ⟨HPl.out.dec.below ?_, HPl.out.fed, HPl.out.gone⟩, Goes.below ?_, Nat.le_add_right _ _⟩
  all_goals
    (try (with_reducible refine Below.drew ?_))
    repeat (refine Below.setCell ?_ (by show w.heap.size ≤ w.heap.size + 1 + 1; omega) _)
    exact hbb

end Ck
end Go.Proofs.YtdbnlpnnfnodnaaGreatDoor

/-
  A decoder that is played: one step, by its kind.
-/
set_option linter.unusedVariables false
set_option linter.unusedSimpArgs false
set_option maxRecDepth 100000
namespace Go.Proofs.YtdbnlpnnfnodnaaGreatDoor
open Go.RowKit Go.Shelf
namespace Ck
open Oc Tg _root_.Go.Proofs.YtdbnlpnnfnodnaaGreatDoor.Fd

set_option maxHeartbeats 4000000 in
theorem step_5 {w0 w : World} {D : Nat} {m r f : Int} {F : ByteArray} {g : Bool} {s : DS} {bs : List Nat} (hbase : Base w0 w bs) (hpl : Play w D m r f F g s bs) (hm0 : 0 ≤ m) (hm1 : m ≤ 9223372036854775807) (hr0 : 0 ≤ r) (hr1 : r ≤ 9223372036854775807) (hf0 : 0 ≤ f) (hf1 : f ≤ 9223372036854775807) (k : Int) (hk0 : -9223372036854775808 ≤ k) (hk1 : k ≤ 9223372036854775807) (S : ByteArray) (hsF : F.size + S.size ≤ 1048576) (hkj : kindN k 6 = 5) :
    Calls Tryz.prog 16 #[.agg #[.pointer (some ⟨D, 0, none⟩), .int .i64 m, .int .i64 r, .int .i64 f, .string F, .bool g], .agg #[.int .i64 k, .string S]] w (StepP w D m r f F S bs) := by
  have HKJ : Hid (kindN k 6 = 5) := hkj
  clear hkj
  obtain ⟨W1, W2, W3, hB⟩ := three_blocks w (.pointer (some ⟨D, 0, none⟩)) m r f F g k S
  obtain ⟨w2, hw2⟩ : ∃ w2, w2 = ((w.alloc (.cells #[.pointer (some ⟨D, 0, none⟩), .int .i64 m, .int .i64 r, .int .i64 f, .string F, .bool g] 49)).alloc (.cells #[.int .i64 k, .string S] 53)).alloc (.cells #[.pointer none, .int .i64 0, .int .i64 0, .int .i64 0, .string ⟨#[]⟩, .bool false] 49) := ⟨_, rfl⟩
  rw [← hw2] at W1 W2 W3 hB
  have HW2 : Hid (w2 = ((w.alloc (.cells #[.pointer (some ⟨D, 0, none⟩), .int .i64 m, .int .i64 r, .int .i64 f, .string F, .bool g] 49)).alloc (.cells #[.int .i64 k, .string S] 53)).alloc (.cells #[.pointer none, .int .i64 0, .int .i64 0, .int .i64 0, .string ⟨#[]⟩, .bool false] 49)) := hw2
  have HB2 : Hid (Below w.heap.size w w2) := hB
  have HP2 : Hid (PlB w2 w.heap.size (.pointer (some ⟨D, 0, none⟩)) m r f F g) := W1
  have HO2 : Hid (OpB w2 (w.heap.size + 1) k S) := W2
  have HR2 : Hid (PlB w2 (w.heap.size + 1 + 1) (.pointer none) 0 0 0 ⟨#[]⟩ false) := W3
  have HWk : Hid (∀ w, Calls Tryz.prog 27 #[.agg #[.pointer (some ⟨D, 0, none⟩), .int .i64 m, .int .i64 r, .int .i64 f, .string F, .bool g]] w fun x w' => ∃ (n : Nat) (e : Int) (d : Bool) (b : ByteArray) (t : List Fl) (v : Value), x = .returned (wkV (n : Int) e d b v) ∧ Sees (eat (new m r f) F.data.toList) n e d b.data.toList t ∧ OwnF 78 w.heap.size v t w' ∧ Below w.heap.size w w') := fun w => pwalk_some D m r f hm0 hm1 hr0 hr1 hf0 hf1 F (by omega) g w
  have HPl : Hid (Play w D m r f F g s bs) := hpl
  have HBs : Hid (Base w0 w bs) := hbase
  obtain ⟨p0, p1, p2, p3, p4, p5⟩ := W1.c
  obtain ⟨o0, o1⟩ := W2.c
  have HLt : Hid (∀ x, x ∈ bs → x < w.heap.size) := hpl.dec.lt
  have hszF : s.tr.length ≤ F.size := by have := hpl.fed.ok.len; rw [size_list] at this; omega
  clear hw2 hB W1 W2 W3 hpl hbase
  go_enter Tryz.func16, Tryz.ntmps16
  go_wp2_with fail
  try rw [← HW2.out]
  try go_wp2_with fail
  refine (HWk.out _).mono ?_
  rintro x w3 ⟨n, e, d, b, t, v, rfl, hsee, hown, hb3⟩
  rw [← size_list F] at hsF
  obtain ⟨rfl, rfl, rfl, hbb, rfl⟩ := HPl.out.fed.sees hsee
  obtain ⟨va, vc, hv⟩ := OwnF.form hown
  subst hv
  rw [size_list] at hsF ⊢
  have HP3 : Hid (PlB w3 w.heap.size (.pointer (some ⟨D, 0, none⟩)) m r f F g) := HP2.out.bel hb3
  have HO3 : Hid (OpB w3 (w.heap.size + 1) k S) := HO2.out.bel hb3
  have HR3 : Hid (PlB w3 (w.heap.size + 1 + 1) (.pointer none) 0 0 0 ⟨#[]⟩ false) := HR2.out.bel hb3
  have HB3 : Hid (Below w.heap.size w w3) := bel_trans HB2.out hb3
  have HT3 : Hid (OwnF 78 w2.heap.size (.slice va s.tr.length vc) s.tr w3) := hown
  have HBB : Hid (b = str s.body) := (eq_list (by rw [str_list]; exact hbb) : b = str s.body)
  clear hsee hown hb3 hbb p0 p1 p2 p3 p4 p5 o0 o1
  unfold wkV
  obtain ⟨w4, hw4⟩ : ∃ w4, w4 = w3.alloc (.cells #[.int .i64 (F.size : Int), .int .i64 s.err, .bool s.done, .string b, .slice va s.tr.length vc] 74) := ⟨_, rfl⟩
  have hA4 : Below w3.heap.size w3 w4 := by rw [hw4]; exact (Below.refl _ _).alloc (Nat.le_refl _) _
  have HX4 : Hid (WB w4 w3.heap.size (F.size : Int) s.err s.done b (.slice va s.tr.length vc)) := (by rw [hw4]; exact heap_alloc_new _ _ : WB w4 w3.heap.size (F.size : Int) s.err s.done b (.slice va s.tr.length vc))
  have HW4 : Hid (w4 = w3.alloc (.cells #[.int .i64 (F.size : Int), .int .i64 s.err, .bool s.done, .string b, .slice va s.tr.length vc] 74)) := hw4
  have HP4 : Hid (PlB w4 w.heap.size (.pointer (some ⟨D, 0, none⟩)) m r f F g) := HP3.out.bel hA4
  have HO4 : Hid (OpB w4 (w.heap.size + 1) k S) := HO3.out.bel hA4
  have HR4 : Hid (PlB w4 (w.heap.size + 1 + 1) (.pointer none) 0 0 0 ⟨#[]⟩ false) := HR3.out.bel hA4
  have HB4 : Hid (Below w.heap.size w w4) := bel_trans HB3.out hA4
  have HT4 : Hid (OwnF 78 w2.heap.size (.slice va s.tr.length vc) s.tr w4) := HT3.out.below hA4
  obtain ⟨o0, o1⟩ := HO3.out.c
  have hlt31 : w.heap.size + 1 < w3.heap.size := by have := HR3.out.lt; omega
  have hne3 : w.heap.size + 1 ≠ w3.heap.size := by have := HR3.out.lt; omega
  have hne4 : w3.heap.size ≠ w.heap.size + 1 := by have := HR3.out.lt; omega
  have hlt3 := HR3.out.lt
  clear hw4 hA4
  go_wp2_with fail
  rw [← HW4.out]
  refine (kind_is w4 k 6 hk0 hk1 (by omega) (by omega)).mono ?_
  rintro x w5 ⟨rfl, hb5⟩
  rw [HKJ.out]
  have HX5 : Hid (WB w5 w3.heap.size (F.size : Int) s.err s.done b (.slice va s.tr.length vc)) := HX4.out.bel hb5
  have HP5 : Hid (PlB w5 w.heap.size (.pointer (some ⟨D, 0, none⟩)) m r f F g) := HP4.out.bel hb5
  have HO5 : Hid (OpB w5 (w.heap.size + 1) k S) := HO4.out.bel hb5
  have HR5 : Hid (PlB w5 (w.heap.size + 1 + 1) (.pointer none) 0 0 0 ⟨#[]⟩ false) := HR4.out.bel hb5
  have HB5 : Hid (Below w.heap.size w w5) := bel_trans HB4.out hb5
  have HT5 : Hid (OwnF 78 w2.heap.size (.slice va s.tr.length vc) s.tr w5) := HT4.out.below hb5
  have HD5 : Hid (Dec w5 D s bs) := HPl.out.dec.below HB5.out
  obtain ⟨x0, x1, x2, x3, x4⟩ := HX5.out.c
  obtain ⟨p0, p1, p2, p3, p4, p5⟩ := HP5.out.c
  obtain ⟨r0, r1, r2, r3, r4, r5⟩ := HR5.out.c
  have f0 := HR5.out.f 0
  have f1 := HR5.out.f 1
  have f2 := HR5.out.f 2
  have f3 := HR5.out.f 3
  have f4 := HR5.out.f 4
  have f5 := HR5.out.f 5
  have hsz5 := HR5.out.lt
  have hs5x := HX5.out.lt
  clear hb5 o0 o1 hne3 hne4 hlt31
  have HTo : Hid (Calls Tryz.prog 31 #[.pointer (some ⟨D, 0, none⟩)] w5.drew fun e w' => e = .returned (.int .i64 (F.size : Int)) ∧ w' = w5.drew) := (by
    have h := Total_any (Dec.drew HD5.out)
    rw [HPl.out.fed.total, size_list] at h
    exact h)
  have q1 : ((F.size : Int) == (F.size : Int)) = true := by simp
  have hS5 : w5.cell? ⟨w.heap.size, 0, none⟩ = some (.pointer (some ⟨D, 0, none⟩)) ∧ w5.cell? ⟨w.heap.size, 1, none⟩ = some (.int .i64 m) ∧ w5.cell? ⟨w.heap.size, 2, none⟩ = some (.int .i64 r) ∧ w5.cell? ⟨w.heap.size, 3, none⟩ = some (.int .i64 f) ∧ w5.cell? ⟨w.heap.size, 4, none⟩ = some (.string F) ∧ w5.cell? ⟨w.heap.size, 5, none⟩ = some (.bool g) ∧ w5.cell? ⟨w3.heap.size, 0, none⟩ = some (.int .i64 (F.size : Int)) := ⟨p0, p1, p2, p3, p4, p5, x0⟩
  have HS5 : Hid (w5.cell? ⟨w.heap.size, 0, none⟩ = some (.pointer (some ⟨D, 0, none⟩)) ∧ w5.cell? ⟨w.heap.size, 1, none⟩ = some (.int .i64 m) ∧ w5.cell? ⟨w.heap.size, 2, none⟩ = some (.int .i64 r) ∧ w5.cell? ⟨w.heap.size, 3, none⟩ = some (.int .i64 f) ∧ w5.cell? ⟨w.heap.size, 4, none⟩ = some (.string F) ∧ w5.cell? ⟨w.heap.size, 5, none⟩ = some (.bool g) ∧ w5.cell? ⟨w3.heap.size, 0, none⟩ = some (.int .i64 (F.size : Int))) := hS5
  have HKd : Hid (∀ W : World, (W.cell? ⟨w.heap.size, 0, none⟩ = some (.pointer (some ⟨D, 0, none⟩)) ∧ W.cell? ⟨w.heap.size, 1, none⟩ = some (.int .i64 m) ∧ W.cell? ⟨w.heap.size, 2, none⟩ = some (.int .i64 r) ∧ W.cell? ⟨w.heap.size, 3, none⟩ = some (.int .i64 f) ∧ W.cell? ⟨w.heap.size, 4, none⟩ = some (.string F) ∧ W.cell? ⟨w.heap.size, 5, none⟩ = some (.bool g) ∧ W.cell? ⟨w3.heap.size, 0, none⟩ = some (.int .i64 (F.size : Int))) → (W.drew.cell? ⟨w.heap.size, 0, none⟩ = some (.pointer (some ⟨D, 0, none⟩)) ∧ W.drew.cell? ⟨w.heap.size, 1, none⟩ = some (.int .i64 m) ∧ W.drew.cell? ⟨w.heap.size, 2, none⟩ = some (.int .i64 r) ∧ W.drew.cell? ⟨w.heap.size, 3, none⟩ = some (.int .i64 f) ∧ W.drew.cell? ⟨w.heap.size, 4, none⟩ = some (.string F) ∧ W.drew.cell? ⟨w.heap.size, 5, none⟩ = some (.bool g) ∧ W.drew.cell? ⟨w3.heap.size, 0, none⟩ = some (.int .i64 (F.size : Int)))) := fun W h => h
  have HKs : Hid (∀ (W : World) (i : Nat) (v : Value), (W.cell? ⟨w.heap.size, 0, none⟩ = some (.pointer (some ⟨D, 0, none⟩)) ∧ W.cell? ⟨w.heap.size, 1, none⟩ = some (.int .i64 m) ∧ W.cell? ⟨w.heap.size, 2, none⟩ = some (.int .i64 r) ∧ W.cell? ⟨w.heap.size, 3, none⟩ = some (.int .i64 f) ∧ W.cell? ⟨w.heap.size, 4, none⟩ = some (.string F) ∧ W.cell? ⟨w.heap.size, 5, none⟩ = some (.bool g) ∧ W.cell? ⟨w3.heap.size, 0, none⟩ = some (.int .i64 (F.size : Int))) → ((W.setCell ⟨w.heap.size + 1 + 1, i, none⟩ v).cell? ⟨w.heap.size, 0, none⟩ = some (.pointer (some ⟨D, 0, none⟩)) ∧ (W.setCell ⟨w.heap.size + 1 + 1, i, none⟩ v).cell? ⟨w.heap.size, 1, none⟩ = some (.int .i64 m) ∧ (W.setCell ⟨w.heap.size + 1 + 1, i, none⟩ v).cell? ⟨w.heap.size, 2, none⟩ = some (.int .i64 r) ∧ (W.setCell ⟨w.heap.size + 1 + 1, i, none⟩ v).cell? ⟨w.heap.size, 3, none⟩ = some (.int .i64 f) ∧ (W.setCell ⟨w.heap.size + 1 + 1, i, none⟩ v).cell? ⟨w.heap.size, 4, none⟩ = some (.string F) ∧ (W.setCell ⟨w.heap.size + 1 + 1, i, none⟩ v).cell? ⟨w.heap.size, 5, none⟩ = some (.bool g) ∧ (W.setCell ⟨w.heap.size + 1 + 1, i, none⟩ v).cell? ⟨w3.heap.size, 0, none⟩ = some (.int .i64 (F.size : Int)))) := fun W i v h => by
    obtain ⟨h0, h1, h2, h3, h4, h5, h6⟩ := h
    refine ⟨?_, ?_, ?_, ?_, ?_, ?_, ?_⟩
    all_goals
      rw [World.cell?_of_block (w := W) (heap_setCell_other W _ _ _ (by simp; try omega))]
      assumption
  have HD5d : Hid (Dec w5.drew D s bs) := HD5.out.below ((Below.refl _ _).drew)
  clear hS5
  go_wp2_with fail
  go_region_held3 (fun W => W.cell? ⟨w.heap.size, 0, none⟩ = some (.pointer (some ⟨D, 0, none⟩)) ∧ W.cell? ⟨w.heap.size, 1, none⟩ = some (.int .i64 m) ∧ W.cell? ⟨w.heap.size, 2, none⟩ = some (.int .i64 r) ∧ W.cell? ⟨w.heap.size, 3, none⟩ = some (.int .i64 f) ∧ W.cell? ⟨w.heap.size, 4, none⟩ = some (.string F) ∧ W.cell? ⟨w.heap.size, 5, none⟩ = some (.bool g) ∧ W.cell? ⟨w3.heap.size, 0, none⟩ = some (.int .i64 (F.size : Int))) (first | with_reducible exact HS5.out | ((try with_reducible refine HKd.out _ ?_); (repeat (with_reducible refine HKs.out _ _ _ ?_)); with_reducible exact HS5.out)) (first | (go_at_call 31; refine (HTo.out).mono ?_; rintro x w6 ⟨rfl, hw6⟩; rw [hw6]; clear hw6))
  go_wp2
  refine bodyPost_ret (v := .tuple #[.agg #[.pointer (some ⟨D, 0, none⟩), .int .i64 m, .int .i64 r, .int .i64 f, .string F, .bool g], .bool true]) (by simp [results, Tryz.results16, go_sem, r0, r1, r2, r3, r4, r5]) rfl ?_
  have hbb : Below w.heap.size w w5 := HB5.out
  refine ⟨F, g, s, bs, rfl, ⟨HPl.out.dec.below ?_, HPl.out.fed, HPl.out.gone⟩, Goes.below ?_, Nat.le_add_right _ _⟩
  all_goals
    (try (with_reducible refine Below.drew ?_))
    repeat (refine Below.setCell ?_ (by show w.heap.size ≤ w.heap.size + 1 + 1; omega) _)
    exact hbb

end Ck
end Go.Proofs.YtdbnlpnnfnodnaaGreatDoor

/-
  A decoder that is played: one that is nil.
-/
set_option linter.unusedVariables false
set_option linter.unusedSimpArgs false
set_option maxRecDepth 100000
namespace Go.Proofs.YtdbnlpnnfnodnaaGreatDoor
open Go.RowKit Go.Shelf
namespace Ck
open Oc Tg _root_.Go.Proofs.YtdbnlpnnfnodnaaGreatDoor.Fd

set_option maxHeartbeats 1000000 in
theorem Done_nil (w : World) : Calls Tryz.prog 29 #[.pointer none] w fun e w' => e = .returned (.bool false) ∧ w' = w := by
  go_enter Tryz.func29, Tryz.ntmps29
  go_wp2
  go_ret
  exact ⟨rfl, rfl⟩
set_option maxHeartbeats 1000000 in
theorem Err_nil (w : World) : Calls Tryz.prog 30 #[.pointer none] w fun e w' => e = .returned (.int .i64 0) ∧ w' = w := by
  go_enter Tryz.func30, Tryz.ntmps30
  go_wp2
  go_ret
  exact ⟨rfl, rfl⟩
set_option maxHeartbeats 1000000 in
theorem Body_nil (w : World) : Calls Tryz.prog 23 #[.pointer none] w fun e w' => e = .returned (.string ⟨#[]⟩) ∧ w' = w := by
  go_enter Tryz.func23, Tryz.ntmps23
  go_wp2
  go_ret
  exact ⟨rfl, rfl⟩
set_option maxHeartbeats 1000000 in
theorem Trailers_nil (w : World) : Calls Tryz.prog 24 #[.pointer none] w fun e w' => e = .returned (.slice none 0 0) ∧ w' = w := by
  go_enter Tryz.func24, Tryz.ntmps24
  go_wp2
  go_ret
  exact ⟨rfl, rfl⟩
set_option maxHeartbeats 1000000 in
theorem Total_nil (w : World) : Calls Tryz.prog 31 #[.pointer none] w fun e w' => e = .returned (.int .i64 0) ∧ w' = w := by
  go_enter Tryz.func31, Tryz.ntmps31
  go_wp2
  go_ret
  exact ⟨rfl, rfl⟩
set_option maxHeartbeats 1000000 in
theorem Feed_nil (S : ByteArray) (w : World) : Calls Tryz.prog 22 #[.pointer none, .string S] w fun e w' => e = .returned (.tuple #[.int .i64 0, .int .i64 103]) ∧ w' = w := by
  go_enter Tryz.func22, Tryz.ntmps22
  go_wp2
  go_ret2
  exact ⟨rfl, rfl⟩
set_option maxHeartbeats 4000000 in
theorem stepn_0 (m r f : Int) (F : ByteArray) (g : Bool) (k : Int) (hk0 : -9223372036854775808 ≤ k) (hk1 : k ≤ 9223372036854775807) (S : ByteArray) (w : World) (hkj : kindN k 6 = 0) :
    Calls Tryz.prog 16 #[.agg #[.pointer none, .int .i64 m, .int .i64 r, .int .i64 f, .string F, .bool g], .agg #[.int .i64 k, .string S]] w fun e w' => e = .returned (.tuple #[.agg #[.pointer none, .int .i64 m, .int .i64 r, .int .i64 f, .string F, .bool g], .bool true]) ∧ Below w.heap.size w w' := by
  have HKJ : Hid (kindN k 6 = 0) := hkj
  clear hkj
  obtain ⟨W1, W2, W3, hB⟩ := three_blocks w (.pointer none) m r f F g k S
  obtain ⟨w2, hw2⟩ : ∃ w2, w2 = ((w.alloc (.cells #[.pointer none, .int .i64 m, .int .i64 r, .int .i64 f, .string F, .bool g] 49)).alloc (.cells #[.int .i64 k, .string S] 53)).alloc (.cells #[.pointer none, .int .i64 0, .int .i64 0, .int .i64 0, .string ⟨#[]⟩, .bool false] 49) := ⟨_, rfl⟩
  rw [← hw2] at W1 W2 W3 hB
  have HW2 : Hid (w2 = ((w.alloc (.cells #[.pointer none, .int .i64 m, .int .i64 r, .int .i64 f, .string F, .bool g] 49)).alloc (.cells #[.int .i64 k, .string S] 53)).alloc (.cells #[.pointer none, .int .i64 0, .int .i64 0, .int .i64 0, .string ⟨#[]⟩, .bool false] 49)) := hw2
  have HB2 : Hid (Below w.heap.size w w2) := hB
  have HP2 : Hid (PlB w2 w.heap.size (.pointer none) m r f F g) := W1
  have HO2 : Hid (OpB w2 (w.heap.size + 1) k S) := W2
  have HR2 : Hid (PlB w2 (w.heap.size + 1 + 1) (.pointer none) 0 0 0 ⟨#[]⟩ false) := W3
  obtain ⟨p0, p1, p2, p3, p4, p5⟩ := W1.c
  obtain ⟨o0, o1⟩ := W2.c
  clear hw2 hB W1 W2 W3
  go_enter Tryz.func16, Tryz.ntmps16
  go_wp2_with fail
  try rw [← HW2.out]
  try go_wp2_with fail
  refine (pwalk_nil m r f F g _).mono ?_
  rintro x w3 ⟨rfl, hb3⟩
  have HP3 : Hid (PlB w3 w.heap.size (.pointer none) m r f F g) := HP2.out.bel hb3
  have HO3 : Hid (OpB w3 (w.heap.size + 1) k S) := HO2.out.bel hb3
  have HR3 : Hid (PlB w3 (w.heap.size + 1 + 1) (.pointer none) 0 0 0 ⟨#[]⟩ false) := HR2.out.bel hb3
  have HB3 : Hid (Below w.heap.size w w3) := bel_trans HB2.out hb3
  clear hb3 p0 p1 p2 p3 p4 p5 o0 o1
  obtain ⟨w4, hw4⟩ : ∃ w4, w4 = w3.alloc (.cells #[.int .i64 0, .int .i64 0, .bool false, .string ⟨#[]⟩, .slice none 0 0] 74) := ⟨_, rfl⟩
  have hA4 : Below w3.heap.size w3 w4 := by rw [hw4]; exact (Below.refl _ _).alloc (Nat.le_refl _) _
  have HX4 : Hid (WB w4 w3.heap.size 0 0 false ⟨#[]⟩ (.slice none 0 0)) := (by rw [hw4]; exact heap_alloc_new _ _ : WB w4 w3.heap.size 0 0 false ⟨#[]⟩ (.slice none 0 0))
  have HW4 : Hid (w4 = w3.alloc (.cells #[.int .i64 0, .int .i64 0, .bool false, .string ⟨#[]⟩, .slice none 0 0] 74)) := hw4
  have HP4 : Hid (PlB w4 w.heap.size (.pointer none) m r f F g) := HP3.out.bel hA4
  have HO4 : Hid (OpB w4 (w.heap.size + 1) k S) := HO3.out.bel hA4
  have HR4 : Hid (PlB w4 (w.heap.size + 1 + 1) (.pointer none) 0 0 0 ⟨#[]⟩ false) := HR3.out.bel hA4
  have HB4 : Hid (Below w.heap.size w w4) := bel_trans HB3.out hA4
  obtain ⟨o0, o1⟩ := HO3.out.c
  have hlt31 : w.heap.size + 1 < w3.heap.size := by have := HR3.out.lt; omega
  have hlt3 := HR3.out.lt
  clear hw4 hA4
  go_wp2_with fail
  rw [← HW4.out]
  refine (kind_is w4 k 6 hk0 hk1 (by omega) (by omega)).mono ?_
  rintro x w5 ⟨rfl, hb5⟩
  rw [HKJ.out]
  have HX5 : Hid (WB w5 w3.heap.size 0 0 false ⟨#[]⟩ (.slice none 0 0)) := HX4.out.bel hb5
  have HP5 : Hid (PlB w5 w.heap.size (.pointer none) m r f F g) := HP4.out.bel hb5
  have HO5 : Hid (OpB w5 (w.heap.size + 1) k S) := HO4.out.bel hb5
  have HR5 : Hid (PlB w5 (w.heap.size + 1 + 1) (.pointer none) 0 0 0 ⟨#[]⟩ false) := HR4.out.bel hb5
  have HB5 : Hid (Below w.heap.size w w5) := bel_trans HB4.out hb5
  obtain ⟨x0, x1, x2, x3, x4⟩ := HX5.out.c
  obtain ⟨p0, p1, p2, p3, p4, p5⟩ := HP5.out.c
  obtain ⟨r0, r1, r2, r3, r4, r5⟩ := HR5.out.c
  have f0 := HR5.out.f 0
  have f1 := HR5.out.f 1
  have f2 := HR5.out.f 2
  have f3 := HR5.out.f 3
  have f4 := HR5.out.f 4
  have f5 := HR5.out.f 5
  have hsz5 := HR5.out.lt
  have hs5x := HX5.out.lt
  clear hb5 o0 o1 hlt31
  obtain ⟨o0, o1⟩ := HO5.out.c
  go_wp2_with fail
  refine (Feed_nil S _).mono ?_
  rintro x w6 ⟨rfl, hw6⟩
  rw [hw6]
  clear hw6
  go_wp2
  refine bodyPost_ret (v := .tuple #[.agg #[.pointer none, .int .i64 m, .int .i64 r, .int .i64 f, .string F, .bool g], .bool true]) (by simp [results, Tryz.results16, go_sem, r0, r1, r2, r3, r4, r5]) rfl ?_
  have hbb : Below w.heap.size w w5 := HB5.out
  refine ⟨rfl, ?_⟩
  (try (with_reducible refine Below.drew ?_))
  repeat (refine Below.setCell ?_ (by show w.heap.size ≤ w.heap.size + 1 + 1; omega) _)
  exact hbb

set_option maxHeartbeats 4000000 in
theorem stepn_1 (m r f : Int) (F : ByteArray) (g : Bool) (k : Int) (hk0 : -9223372036854775808 ≤ k) (hk1 : k ≤ 9223372036854775807) (S : ByteArray) (w : World) (hkj : kindN k 6 = 1) :
    Calls Tryz.prog 16 #[.agg #[.pointer none, .int .i64 m, .int .i64 r, .int .i64 f, .string F, .bool g], .agg #[.int .i64 k, .string S]] w fun e w' => e = .returned (.tuple #[.agg #[.pointer none, .int .i64 m, .int .i64 r, .int .i64 f, .string F, .bool g], .bool true]) ∧ Below w.heap.size w w' := by
  have HKJ : Hid (kindN k 6 = 1) := hkj
  clear hkj
  obtain ⟨W1, W2, W3, hB⟩ := three_blocks w (.pointer none) m r f F g k S
  obtain ⟨w2, hw2⟩ : ∃ w2, w2 = ((w.alloc (.cells #[.pointer none, .int .i64 m, .int .i64 r, .int .i64 f, .string F, .bool g] 49)).alloc (.cells #[.int .i64 k, .string S] 53)).alloc (.cells #[.pointer none, .int .i64 0, .int .i64 0, .int .i64 0, .string ⟨#[]⟩, .bool false] 49) := ⟨_, rfl⟩
  rw [← hw2] at W1 W2 W3 hB
  have HW2 : Hid (w2 = ((w.alloc (.cells #[.pointer none, .int .i64 m, .int .i64 r, .int .i64 f, .string F, .bool g] 49)).alloc (.cells #[.int .i64 k, .string S] 53)).alloc (.cells #[.pointer none, .int .i64 0, .int .i64 0, .int .i64 0, .string ⟨#[]⟩, .bool false] 49)) := hw2
  have HB2 : Hid (Below w.heap.size w w2) := hB
  have HP2 : Hid (PlB w2 w.heap.size (.pointer none) m r f F g) := W1
  have HO2 : Hid (OpB w2 (w.heap.size + 1) k S) := W2
  have HR2 : Hid (PlB w2 (w.heap.size + 1 + 1) (.pointer none) 0 0 0 ⟨#[]⟩ false) := W3
  obtain ⟨p0, p1, p2, p3, p4, p5⟩ := W1.c
  obtain ⟨o0, o1⟩ := W2.c
  clear hw2 hB W1 W2 W3
  go_enter Tryz.func16, Tryz.ntmps16
  go_wp2_with fail
  try rw [← HW2.out]
  try go_wp2_with fail
  refine (pwalk_nil m r f F g _).mono ?_
  rintro x w3 ⟨rfl, hb3⟩
  have HP3 : Hid (PlB w3 w.heap.size (.pointer none) m r f F g) := HP2.out.bel hb3
  have HO3 : Hid (OpB w3 (w.heap.size + 1) k S) := HO2.out.bel hb3
  have HR3 : Hid (PlB w3 (w.heap.size + 1 + 1) (.pointer none) 0 0 0 ⟨#[]⟩ false) := HR2.out.bel hb3
  have HB3 : Hid (Below w.heap.size w w3) := bel_trans HB2.out hb3
  clear hb3 p0 p1 p2 p3 p4 p5 o0 o1
  obtain ⟨w4, hw4⟩ : ∃ w4, w4 = w3.alloc (.cells #[.int .i64 0, .int .i64 0, .bool false, .string ⟨#[]⟩, .slice none 0 0] 74) := ⟨_, rfl⟩
  have hA4 : Below w3.heap.size w3 w4 := by rw [hw4]; exact (Below.refl _ _).alloc (Nat.le_refl _) _
  have HX4 : Hid (WB w4 w3.heap.size 0 0 false ⟨#[]⟩ (.slice none 0 0)) := (by rw [hw4]; exact heap_alloc_new _ _ : WB w4 w3.heap.size 0 0 false ⟨#[]⟩ (.slice none 0 0))
  have HW4 : Hid (w4 = w3.alloc (.cells #[.int .i64 0, .int .i64 0, .bool false, .string ⟨#[]⟩, .slice none 0 0] 74)) := hw4
  have HP4 : Hid (PlB w4 w.heap.size (.pointer none) m r f F g) := HP3.out.bel hA4
  have HO4 : Hid (OpB w4 (w.heap.size + 1) k S) := HO3.out.bel hA4
  have HR4 : Hid (PlB w4 (w.heap.size + 1 + 1) (.pointer none) 0 0 0 ⟨#[]⟩ false) := HR3.out.bel hA4
  have HB4 : Hid (Below w.heap.size w w4) := bel_trans HB3.out hA4
  obtain ⟨o0, o1⟩ := HO3.out.c
  have hlt31 : w.heap.size + 1 < w3.heap.size := by have := HR3.out.lt; omega
  have hlt3 := HR3.out.lt
  clear hw4 hA4
  go_wp2_with fail
  rw [← HW4.out]
  refine (kind_is w4 k 6 hk0 hk1 (by omega) (by omega)).mono ?_
  rintro x w5 ⟨rfl, hb5⟩
  rw [HKJ.out]
  have HX5 : Hid (WB w5 w3.heap.size 0 0 false ⟨#[]⟩ (.slice none 0 0)) := HX4.out.bel hb5
  have HP5 : Hid (PlB w5 w.heap.size (.pointer none) m r f F g) := HP4.out.bel hb5
  have HO5 : Hid (OpB w5 (w.heap.size + 1) k S) := HO4.out.bel hb5
  have HR5 : Hid (PlB w5 (w.heap.size + 1 + 1) (.pointer none) 0 0 0 ⟨#[]⟩ false) := HR4.out.bel hb5
  have HB5 : Hid (Below w.heap.size w w5) := bel_trans HB4.out hb5
  obtain ⟨x0, x1, x2, x3, x4⟩ := HX5.out.c
  obtain ⟨p0, p1, p2, p3, p4, p5⟩ := HP5.out.c
  obtain ⟨r0, r1, r2, r3, r4, r5⟩ := HR5.out.c
  have f0 := HR5.out.f 0
  have f1 := HR5.out.f 1
  have f2 := HR5.out.f 2
  have f3 := HR5.out.f 3
  have f4 := HR5.out.f 4
  have f5 := HR5.out.f 5
  have hsz5 := HR5.out.lt
  have hs5x := HX5.out.lt
  clear hb5 o0 o1 hlt31
  have hS5 : w5.cell? ⟨w.heap.size, 0, none⟩ = some (.pointer none) ∧ w5.cell? ⟨w.heap.size, 1, none⟩ = some (.int .i64 m) ∧ w5.cell? ⟨w.heap.size, 2, none⟩ = some (.int .i64 r) ∧ w5.cell? ⟨w.heap.size, 3, none⟩ = some (.int .i64 f) ∧ w5.cell? ⟨w.heap.size, 4, none⟩ = some (.string F) ∧ w5.cell? ⟨w.heap.size, 5, none⟩ = some (.bool g) ∧ w5.cell? ⟨w3.heap.size, 2, none⟩ = some (.bool false) := ⟨p0, p1, p2, p3, p4, p5, x2⟩
  have HS5 : Hid (w5.cell? ⟨w.heap.size, 0, none⟩ = some (.pointer none) ∧ w5.cell? ⟨w.heap.size, 1, none⟩ = some (.int .i64 m) ∧ w5.cell? ⟨w.heap.size, 2, none⟩ = some (.int .i64 r) ∧ w5.cell? ⟨w.heap.size, 3, none⟩ = some (.int .i64 f) ∧ w5.cell? ⟨w.heap.size, 4, none⟩ = some (.string F) ∧ w5.cell? ⟨w.heap.size, 5, none⟩ = some (.bool g) ∧ w5.cell? ⟨w3.heap.size, 2, none⟩ = some (.bool false)) := hS5
  have HKd : Hid (∀ W : World, (W.cell? ⟨w.heap.size, 0, none⟩ = some (.pointer none) ∧ W.cell? ⟨w.heap.size, 1, none⟩ = some (.int .i64 m) ∧ W.cell? ⟨w.heap.size, 2, none⟩ = some (.int .i64 r) ∧ W.cell? ⟨w.heap.size, 3, none⟩ = some (.int .i64 f) ∧ W.cell? ⟨w.heap.size, 4, none⟩ = some (.string F) ∧ W.cell? ⟨w.heap.size, 5, none⟩ = some (.bool g) ∧ W.cell? ⟨w3.heap.size, 2, none⟩ = some (.bool false)) → (W.drew.cell? ⟨w.heap.size, 0, none⟩ = some (.pointer none) ∧ W.drew.cell? ⟨w.heap.size, 1, none⟩ = some (.int .i64 m) ∧ W.drew.cell? ⟨w.heap.size, 2, none⟩ = some (.int .i64 r) ∧ W.drew.cell? ⟨w.heap.size, 3, none⟩ = some (.int .i64 f) ∧ W.drew.cell? ⟨w.heap.size, 4, none⟩ = some (.string F) ∧ W.drew.cell? ⟨w.heap.size, 5, none⟩ = some (.bool g) ∧ W.drew.cell? ⟨w3.heap.size, 2, none⟩ = some (.bool false))) := fun W h => h
  have HKs : Hid (∀ (W : World) (i : Nat) (v : Value), (W.cell? ⟨w.heap.size, 0, none⟩ = some (.pointer none) ∧ W.cell? ⟨w.heap.size, 1, none⟩ = some (.int .i64 m) ∧ W.cell? ⟨w.heap.size, 2, none⟩ = some (.int .i64 r) ∧ W.cell? ⟨w.heap.size, 3, none⟩ = some (.int .i64 f) ∧ W.cell? ⟨w.heap.size, 4, none⟩ = some (.string F) ∧ W.cell? ⟨w.heap.size, 5, none⟩ = some (.bool g) ∧ W.cell? ⟨w3.heap.size, 2, none⟩ = some (.bool false)) → ((W.setCell ⟨w.heap.size + 1 + 1, i, none⟩ v).cell? ⟨w.heap.size, 0, none⟩ = some (.pointer none) ∧ (W.setCell ⟨w.heap.size + 1 + 1, i, none⟩ v).cell? ⟨w.heap.size, 1, none⟩ = some (.int .i64 m) ∧ (W.setCell ⟨w.heap.size + 1 + 1, i, none⟩ v).cell? ⟨w.heap.size, 2, none⟩ = some (.int .i64 r) ∧ (W.setCell ⟨w.heap.size + 1 + 1, i, none⟩ v).cell? ⟨w.heap.size, 3, none⟩ = some (.int .i64 f) ∧ (W.setCell ⟨w.heap.size + 1 + 1, i, none⟩ v).cell? ⟨w.heap.size, 4, none⟩ = some (.string F) ∧ (W.setCell ⟨w.heap.size + 1 + 1, i, none⟩ v).cell? ⟨w.heap.size, 5, none⟩ = some (.bool g) ∧ (W.setCell ⟨w.heap.size + 1 + 1, i, none⟩ v).cell? ⟨w3.heap.size, 2, none⟩ = some (.bool false))) := fun W i v h => by
    obtain ⟨h0, h1, h2, h3, h4, h5, h6⟩ := h
    refine ⟨?_, ?_, ?_, ?_, ?_, ?_, ?_⟩
    all_goals
      rw [World.cell?_of_block (w := W) (heap_setCell_other W _ _ _ (by simp; try omega))]
      assumption
  clear hS5
  go_wp2_with fail
  go_region_held3 (fun W => W.cell? ⟨w.heap.size, 0, none⟩ = some (.pointer none) ∧ W.cell? ⟨w.heap.size, 1, none⟩ = some (.int .i64 m) ∧ W.cell? ⟨w.heap.size, 2, none⟩ = some (.int .i64 r) ∧ W.cell? ⟨w.heap.size, 3, none⟩ = some (.int .i64 f) ∧ W.cell? ⟨w.heap.size, 4, none⟩ = some (.string F) ∧ W.cell? ⟨w.heap.size, 5, none⟩ = some (.bool g) ∧ W.cell? ⟨w3.heap.size, 2, none⟩ = some (.bool false)) (first | with_reducible exact HS5.out | ((try with_reducible refine HKd.out _ ?_); (repeat (with_reducible refine HKs.out _ _ _ ?_)); with_reducible exact HS5.out)) (first | (go_at_call 29; refine (Done_nil _).mono ?_; rintro x w6 ⟨rfl, hw6⟩; rw [hw6]; clear hw6))
  go_wp2
  refine bodyPost_ret (v := .tuple #[.agg #[.pointer none, .int .i64 m, .int .i64 r, .int .i64 f, .string F, .bool g], .bool true]) (by simp [results, Tryz.results16, go_sem, r0, r1, r2, r3, r4, r5]) rfl ?_
  have hbb : Below w.heap.size w w5 := HB5.out
  refine ⟨rfl, ?_⟩
  (try (with_reducible refine Below.drew ?_))
  repeat (refine Below.setCell ?_ (by show w.heap.size ≤ w.heap.size + 1 + 1; omega) _)
  exact hbb

set_option maxHeartbeats 4000000 in
theorem stepn_2 (m r f : Int) (F : ByteArray) (g : Bool) (k : Int) (hk0 : -9223372036854775808 ≤ k) (hk1 : k ≤ 9223372036854775807) (S : ByteArray) (w : World) (hkj : kindN k 6 = 2) :
    Calls Tryz.prog 16 #[.agg #[.pointer none, .int .i64 m, .int .i64 r, .int .i64 f, .string F, .bool g], .agg #[.int .i64 k, .string S]] w fun e w' => e = .returned (.tuple #[.agg #[.pointer none, .int .i64 m, .int .i64 r, .int .i64 f, .string F, .bool g], .bool true]) ∧ Below w.heap.size w w' := by
  have HKJ : Hid (kindN k 6 = 2) := hkj
  clear hkj
  obtain ⟨W1, W2, W3, hB⟩ := three_blocks w (.pointer none) m r f F g k S
  obtain ⟨w2, hw2⟩ : ∃ w2, w2 = ((w.alloc (.cells #[.pointer none, .int .i64 m, .int .i64 r, .int .i64 f, .string F, .bool g] 49)).alloc (.cells #[.int .i64 k, .string S] 53)).alloc (.cells #[.pointer none, .int .i64 0, .int .i64 0, .int .i64 0, .string ⟨#[]⟩, .bool false] 49) := ⟨_, rfl⟩
  rw [← hw2] at W1 W2 W3 hB
  have HW2 : Hid (w2 = ((w.alloc (.cells #[.pointer none, .int .i64 m, .int .i64 r, .int .i64 f, .string F, .bool g] 49)).alloc (.cells #[.int .i64 k, .string S] 53)).alloc (.cells #[.pointer none, .int .i64 0, .int .i64 0, .int .i64 0, .string ⟨#[]⟩, .bool false] 49)) := hw2
  have HB2 : Hid (Below w.heap.size w w2) := hB
  have HP2 : Hid (PlB w2 w.heap.size (.pointer none) m r f F g) := W1
  have HO2 : Hid (OpB w2 (w.heap.size + 1) k S) := W2
  have HR2 : Hid (PlB w2 (w.heap.size + 1 + 1) (.pointer none) 0 0 0 ⟨#[]⟩ false) := W3
  obtain ⟨p0, p1, p2, p3, p4, p5⟩ := W1.c
  obtain ⟨o0, o1⟩ := W2.c
  clear hw2 hB W1 W2 W3
  go_enter Tryz.func16, Tryz.ntmps16
  go_wp2_with fail
  try rw [← HW2.out]
  try go_wp2_with fail
  refine (pwalk_nil m r f F g _).mono ?_
  rintro x w3 ⟨rfl, hb3⟩
  have HP3 : Hid (PlB w3 w.heap.size (.pointer none) m r f F g) := HP2.out.bel hb3
  have HO3 : Hid (OpB w3 (w.heap.size + 1) k S) := HO2.out.bel hb3
  have HR3 : Hid (PlB w3 (w.heap.size + 1 + 1) (.pointer none) 0 0 0 ⟨#[]⟩ false) := HR2.out.bel hb3
  have HB3 : Hid (Below w.heap.size w w3) := bel_trans HB2.out hb3
  clear hb3 p0 p1 p2 p3 p4 p5 o0 o1
  obtain ⟨w4, hw4⟩ : ∃ w4, w4 = w3.alloc (.cells #[.int .i64 0, .int .i64 0, .bool false, .string ⟨#[]⟩, .slice none 0 0] 74) := ⟨_, rfl⟩
  have hA4 : Below w3.heap.size w3 w4 := by rw [hw4]; exact (Below.refl _ _).alloc (Nat.le_refl _) _
  have HX4 : Hid (WB w4 w3.heap.size 0 0 false ⟨#[]⟩ (.slice none 0 0)) := (by rw [hw4]; exact heap_alloc_new _ _ : WB w4 w3.heap.size 0 0 false ⟨#[]⟩ (.slice none 0 0))
  have HW4 : Hid (w4 = w3.alloc (.cells #[.int .i64 0, .int .i64 0, .bool false, .string ⟨#[]⟩, .slice none 0 0] 74)) := hw4
  have HP4 : Hid (PlB w4 w.heap.size (.pointer none) m r f F g) := HP3.out.bel hA4
  have HO4 : Hid (OpB w4 (w.heap.size + 1) k S) := HO3.out.bel hA4
  have HR4 : Hid (PlB w4 (w.heap.size + 1 + 1) (.pointer none) 0 0 0 ⟨#[]⟩ false) := HR3.out.bel hA4
  have HB4 : Hid (Below w.heap.size w w4) := bel_trans HB3.out hA4
  obtain ⟨o0, o1⟩ := HO3.out.c
  have hlt31 : w.heap.size + 1 < w3.heap.size := by have := HR3.out.lt; omega
  have hlt3 := HR3.out.lt
  clear hw4 hA4
  go_wp2_with fail
  rw [← HW4.out]
  refine (kind_is w4 k 6 hk0 hk1 (by omega) (by omega)).mono ?_
  rintro x w5 ⟨rfl, hb5⟩
  rw [HKJ.out]
  have HX5 : Hid (WB w5 w3.heap.size 0 0 false ⟨#[]⟩ (.slice none 0 0)) := HX4.out.bel hb5
  have HP5 : Hid (PlB w5 w.heap.size (.pointer none) m r f F g) := HP4.out.bel hb5
  have HO5 : Hid (OpB w5 (w.heap.size + 1) k S) := HO4.out.bel hb5
  have HR5 : Hid (PlB w5 (w.heap.size + 1 + 1) (.pointer none) 0 0 0 ⟨#[]⟩ false) := HR4.out.bel hb5
  have HB5 : Hid (Below w.heap.size w w5) := bel_trans HB4.out hb5
  obtain ⟨x0, x1, x2, x3, x4⟩ := HX5.out.c
  obtain ⟨p0, p1, p2, p3, p4, p5⟩ := HP5.out.c
  obtain ⟨r0, r1, r2, r3, r4, r5⟩ := HR5.out.c
  have f0 := HR5.out.f 0
  have f1 := HR5.out.f 1
  have f2 := HR5.out.f 2
  have f3 := HR5.out.f 3
  have f4 := HR5.out.f 4
  have f5 := HR5.out.f 5
  have hsz5 := HR5.out.lt
  have hs5x := HX5.out.lt
  clear hb5 o0 o1 hlt31
  have hS5 : w5.cell? ⟨w.heap.size, 0, none⟩ = some (.pointer none) ∧ w5.cell? ⟨w.heap.size, 1, none⟩ = some (.int .i64 m) ∧ w5.cell? ⟨w.heap.size, 2, none⟩ = some (.int .i64 r) ∧ w5.cell? ⟨w.heap.size, 3, none⟩ = some (.int .i64 f) ∧ w5.cell? ⟨w.heap.size, 4, none⟩ = some (.string F) ∧ w5.cell? ⟨w.heap.size, 5, none⟩ = some (.bool g) ∧ w5.cell? ⟨w3.heap.size, 1, none⟩ = some (.int .i64 0) := ⟨p0, p1, p2, p3, p4, p5, x1⟩
  have HS5 : Hid (w5.cell? ⟨w.heap.size, 0, none⟩ = some (.pointer none) ∧ w5.cell? ⟨w.heap.size, 1, none⟩ = some (.int .i64 m) ∧ w5.cell? ⟨w.heap.size, 2, none⟩ = some (.int .i64 r) ∧ w5.cell? ⟨w.heap.size, 3, none⟩ = some (.int .i64 f) ∧ w5.cell? ⟨w.heap.size, 4, none⟩ = some (.string F) ∧ w5.cell? ⟨w.heap.size, 5, none⟩ = some (.bool g) ∧ w5.cell? ⟨w3.heap.size, 1, none⟩ = some (.int .i64 0)) := hS5
  have HKd : Hid (∀ W : World, (W.cell? ⟨w.heap.size, 0, none⟩ = some (.pointer none) ∧ W.cell? ⟨w.heap.size, 1, none⟩ = some (.int .i64 m) ∧ W.cell? ⟨w.heap.size, 2, none⟩ = some (.int .i64 r) ∧ W.cell? ⟨w.heap.size, 3, none⟩ = some (.int .i64 f) ∧ W.cell? ⟨w.heap.size, 4, none⟩ = some (.string F) ∧ W.cell? ⟨w.heap.size, 5, none⟩ = some (.bool g) ∧ W.cell? ⟨w3.heap.size, 1, none⟩ = some (.int .i64 0)) → (W.drew.cell? ⟨w.heap.size, 0, none⟩ = some (.pointer none) ∧ W.drew.cell? ⟨w.heap.size, 1, none⟩ = some (.int .i64 m) ∧ W.drew.cell? ⟨w.heap.size, 2, none⟩ = some (.int .i64 r) ∧ W.drew.cell? ⟨w.heap.size, 3, none⟩ = some (.int .i64 f) ∧ W.drew.cell? ⟨w.heap.size, 4, none⟩ = some (.string F) ∧ W.drew.cell? ⟨w.heap.size, 5, none⟩ = some (.bool g) ∧ W.drew.cell? ⟨w3.heap.size, 1, none⟩ = some (.int .i64 0))) := fun W h => h
  have HKs : Hid (∀ (W : World) (i : Nat) (v : Value), (W.cell? ⟨w.heap.size, 0, none⟩ = some (.pointer none) ∧ W.cell? ⟨w.heap.size, 1, none⟩ = some (.int .i64 m) ∧ W.cell? ⟨w.heap.size, 2, none⟩ = some (.int .i64 r) ∧ W.cell? ⟨w.heap.size, 3, none⟩ = some (.int .i64 f) ∧ W.cell? ⟨w.heap.size, 4, none⟩ = some (.string F) ∧ W.cell? ⟨w.heap.size, 5, none⟩ = some (.bool g) ∧ W.cell? ⟨w3.heap.size, 1, none⟩ = some (.int .i64 0)) → ((W.setCell ⟨w.heap.size + 1 + 1, i, none⟩ v).cell? ⟨w.heap.size, 0, none⟩ = some (.pointer none) ∧ (W.setCell ⟨w.heap.size + 1 + 1, i, none⟩ v).cell? ⟨w.heap.size, 1, none⟩ = some (.int .i64 m) ∧ (W.setCell ⟨w.heap.size + 1 + 1, i, none⟩ v).cell? ⟨w.heap.size, 2, none⟩ = some (.int .i64 r) ∧ (W.setCell ⟨w.heap.size + 1 + 1, i, none⟩ v).cell? ⟨w.heap.size, 3, none⟩ = some (.int .i64 f) ∧ (W.setCell ⟨w.heap.size + 1 + 1, i, none⟩ v).cell? ⟨w.heap.size, 4, none⟩ = some (.string F) ∧ (W.setCell ⟨w.heap.size + 1 + 1, i, none⟩ v).cell? ⟨w.heap.size, 5, none⟩ = some (.bool g) ∧ (W.setCell ⟨w.heap.size + 1 + 1, i, none⟩ v).cell? ⟨w3.heap.size, 1, none⟩ = some (.int .i64 0))) := fun W i v h => by
    obtain ⟨h0, h1, h2, h3, h4, h5, h6⟩ := h
    refine ⟨?_, ?_, ?_, ?_, ?_, ?_, ?_⟩
    all_goals
      rw [World.cell?_of_block (w := W) (heap_setCell_other W _ _ _ (by simp; try omega))]
      assumption
  clear hS5
  go_wp2_with fail
  go_region_held3 (fun W => W.cell? ⟨w.heap.size, 0, none⟩ = some (.pointer none) ∧ W.cell? ⟨w.heap.size, 1, none⟩ = some (.int .i64 m) ∧ W.cell? ⟨w.heap.size, 2, none⟩ = some (.int .i64 r) ∧ W.cell? ⟨w.heap.size, 3, none⟩ = some (.int .i64 f) ∧ W.cell? ⟨w.heap.size, 4, none⟩ = some (.string F) ∧ W.cell? ⟨w.heap.size, 5, none⟩ = some (.bool g) ∧ W.cell? ⟨w3.heap.size, 1, none⟩ = some (.int .i64 0)) (first | with_reducible exact HS5.out | ((try with_reducible refine HKd.out _ ?_); (repeat (with_reducible refine HKs.out _ _ _ ?_)); with_reducible exact HS5.out)) (first | (go_at_call 30; refine (Err_nil _).mono ?_; rintro x w6 ⟨rfl, hw6⟩; rw [hw6]; clear hw6))
  go_wp2
  refine bodyPost_ret (v := .tuple #[.agg #[.pointer none, .int .i64 m, .int .i64 r, .int .i64 f, .string F, .bool g], .bool true]) (by simp [results, Tryz.results16, go_sem, r0, r1, r2, r3, r4, r5]) rfl ?_
  have hbb : Below w.heap.size w w5 := HB5.out
  refine ⟨rfl, ?_⟩
  (try (with_reducible refine Below.drew ?_))
  repeat (refine Below.setCell ?_ (by show w.heap.size ≤ w.heap.size + 1 + 1; omega) _)
  exact hbb

set_option maxHeartbeats 4000000 in
theorem stepn_3 (m r f : Int) (F : ByteArray) (g : Bool) (k : Int) (hk0 : -9223372036854775808 ≤ k) (hk1 : k ≤ 9223372036854775807) (S : ByteArray) (w : World) (hkj : kindN k 6 = 3) :
    Calls Tryz.prog 16 #[.agg #[.pointer none, .int .i64 m, .int .i64 r, .int .i64 f, .string F, .bool g], .agg #[.int .i64 k, .string S]] w fun e w' => e = .returned (.tuple #[.agg #[.pointer none, .int .i64 m, .int .i64 r, .int .i64 f, .string F, .bool g], .bool true]) ∧ Below w.heap.size w w' := by
  have HKJ : Hid (kindN k 6 = 3) := hkj
  clear hkj
  obtain ⟨W1, W2, W3, hB⟩ := three_blocks w (.pointer none) m r f F g k S
  obtain ⟨w2, hw2⟩ : ∃ w2, w2 = ((w.alloc (.cells #[.pointer none, .int .i64 m, .int .i64 r, .int .i64 f, .string F, .bool g] 49)).alloc (.cells #[.int .i64 k, .string S] 53)).alloc (.cells #[.pointer none, .int .i64 0, .int .i64 0, .int .i64 0, .string ⟨#[]⟩, .bool false] 49) := ⟨_, rfl⟩
  rw [← hw2] at W1 W2 W3 hB
  have HW2 : Hid (w2 = ((w.alloc (.cells #[.pointer none, .int .i64 m, .int .i64 r, .int .i64 f, .string F, .bool g] 49)).alloc (.cells #[.int .i64 k, .string S] 53)).alloc (.cells #[.pointer none, .int .i64 0, .int .i64 0, .int .i64 0, .string ⟨#[]⟩, .bool false] 49)) := hw2
  have HB2 : Hid (Below w.heap.size w w2) := hB
  have HP2 : Hid (PlB w2 w.heap.size (.pointer none) m r f F g) := W1
  have HO2 : Hid (OpB w2 (w.heap.size + 1) k S) := W2
  have HR2 : Hid (PlB w2 (w.heap.size + 1 + 1) (.pointer none) 0 0 0 ⟨#[]⟩ false) := W3
  obtain ⟨p0, p1, p2, p3, p4, p5⟩ := W1.c
  obtain ⟨o0, o1⟩ := W2.c
  clear hw2 hB W1 W2 W3
  go_enter Tryz.func16, Tryz.ntmps16
  go_wp2_with fail
  try rw [← HW2.out]
  try go_wp2_with fail
  refine (pwalk_nil m r f F g _).mono ?_
  rintro x w3 ⟨rfl, hb3⟩
  have HP3 : Hid (PlB w3 w.heap.size (.pointer none) m r f F g) := HP2.out.bel hb3
  have HO3 : Hid (OpB w3 (w.heap.size + 1) k S) := HO2.out.bel hb3
  have HR3 : Hid (PlB w3 (w.heap.size + 1 + 1) (.pointer none) 0 0 0 ⟨#[]⟩ false) := HR2.out.bel hb3
  have HB3 : Hid (Below w.heap.size w w3) := bel_trans HB2.out hb3
  clear hb3 p0 p1 p2 p3 p4 p5 o0 o1
  obtain ⟨w4, hw4⟩ : ∃ w4, w4 = w3.alloc (.cells #[.int .i64 0, .int .i64 0, .bool false, .string ⟨#[]⟩, .slice none 0 0] 74) := ⟨_, rfl⟩
  have hA4 : Below w3.heap.size w3 w4 := by rw [hw4]; exact (Below.refl _ _).alloc (Nat.le_refl _) _
  have HX4 : Hid (WB w4 w3.heap.size 0 0 false ⟨#[]⟩ (.slice none 0 0)) := (by rw [hw4]; exact heap_alloc_new _ _ : WB w4 w3.heap.size 0 0 false ⟨#[]⟩ (.slice none 0 0))
  have HW4 : Hid (w4 = w3.alloc (.cells #[.int .i64 0, .int .i64 0, .bool false, .string ⟨#[]⟩, .slice none 0 0] 74)) := hw4
  have HP4 : Hid (PlB w4 w.heap.size (.pointer none) m r f F g) := HP3.out.bel hA4
  have HO4 : Hid (OpB w4 (w.heap.size + 1) k S) := HO3.out.bel hA4
  have HR4 : Hid (PlB w4 (w.heap.size + 1 + 1) (.pointer none) 0 0 0 ⟨#[]⟩ false) := HR3.out.bel hA4
  have HB4 : Hid (Below w.heap.size w w4) := bel_trans HB3.out hA4
  obtain ⟨o0, o1⟩ := HO3.out.c
  have hlt31 : w.heap.size + 1 < w3.heap.size := by have := HR3.out.lt; omega
  have hlt3 := HR3.out.lt
  clear hw4 hA4
  go_wp2_with fail
  rw [← HW4.out]
  refine (kind_is w4 k 6 hk0 hk1 (by omega) (by omega)).mono ?_
  rintro x w5 ⟨rfl, hb5⟩
  rw [HKJ.out]
  have HX5 : Hid (WB w5 w3.heap.size 0 0 false ⟨#[]⟩ (.slice none 0 0)) := HX4.out.bel hb5
  have HP5 : Hid (PlB w5 w.heap.size (.pointer none) m r f F g) := HP4.out.bel hb5
  have HO5 : Hid (OpB w5 (w.heap.size + 1) k S) := HO4.out.bel hb5
  have HR5 : Hid (PlB w5 (w.heap.size + 1 + 1) (.pointer none) 0 0 0 ⟨#[]⟩ false) := HR4.out.bel hb5
  have HB5 : Hid (Below w.heap.size w w5) := bel_trans HB4.out hb5
  obtain ⟨x0, x1, x2, x3, x4⟩ := HX5.out.c
  obtain ⟨p0, p1, p2, p3, p4, p5⟩ := HP5.out.c
  obtain ⟨r0, r1, r2, r3, r4, r5⟩ := HR5.out.c
  have f0 := HR5.out.f 0
  have f1 := HR5.out.f 1
  have f2 := HR5.out.f 2
  have f3 := HR5.out.f 3
  have f4 := HR5.out.f 4
  have f5 := HR5.out.f 5
  have hsz5 := HR5.out.lt
  have hs5x := HX5.out.lt
  clear hb5 o0 o1 hlt31
  have hS5 : w5.cell? ⟨w.heap.size, 0, none⟩ = some (.pointer none) ∧ w5.cell? ⟨w.heap.size, 1, none⟩ = some (.int .i64 m) ∧ w5.cell? ⟨w.heap.size, 2, none⟩ = some (.int .i64 r) ∧ w5.cell? ⟨w.heap.size, 3, none⟩ = some (.int .i64 f) ∧ w5.cell? ⟨w.heap.size, 4, none⟩ = some (.string F) ∧ w5.cell? ⟨w.heap.size, 5, none⟩ = some (.bool g) ∧ w5.cell? ⟨w3.heap.size, 3, none⟩ = some (.string ⟨#[]⟩) := ⟨p0, p1, p2, p3, p4, p5, x3⟩
  have HS5 : Hid (w5.cell? ⟨w.heap.size, 0, none⟩ = some (.pointer none) ∧ w5.cell? ⟨w.heap.size, 1, none⟩ = some (.int .i64 m) ∧ w5.cell? ⟨w.heap.size, 2, none⟩ = some (.int .i64 r) ∧ w5.cell? ⟨w.heap.size, 3, none⟩ = some (.int .i64 f) ∧ w5.cell? ⟨w.heap.size, 4, none⟩ = some (.string F) ∧ w5.cell? ⟨w.heap.size, 5, none⟩ = some (.bool g) ∧ w5.cell? ⟨w3.heap.size, 3, none⟩ = some (.string ⟨#[]⟩)) := hS5
  have HKd : Hid (∀ W : World, (W.cell? ⟨w.heap.size, 0, none⟩ = some (.pointer none) ∧ W.cell? ⟨w.heap.size, 1, none⟩ = some (.int .i64 m) ∧ W.cell? ⟨w.heap.size, 2, none⟩ = some (.int .i64 r) ∧ W.cell? ⟨w.heap.size, 3, none⟩ = some (.int .i64 f) ∧ W.cell? ⟨w.heap.size, 4, none⟩ = some (.string F) ∧ W.cell? ⟨w.heap.size, 5, none⟩ = some (.bool g) ∧ W.cell? ⟨w3.heap.size, 3, none⟩ = some (.string ⟨#[]⟩)) → (W.drew.cell? ⟨w.heap.size, 0, none⟩ = some (.pointer none) ∧ W.drew.cell? ⟨w.heap.size, 1, none⟩ = some (.int .i64 m) ∧ W.drew.cell? ⟨w.heap.size, 2, none⟩ = some (.int .i64 r) ∧ W.drew.cell? ⟨w.heap.size, 3, none⟩ = some (.int .i64 f) ∧ W.drew.cell? ⟨w.heap.size, 4, none⟩ = some (.string F) ∧ W.drew.cell? ⟨w.heap.size, 5, none⟩ = some (.bool g) ∧ W.drew.cell? ⟨w3.heap.size, 3, none⟩ = some (.string ⟨#[]⟩))) := fun W h => h
  have HKs : Hid (∀ (W : World) (i : Nat) (v : Value), (W.cell? ⟨w.heap.size, 0, none⟩ = some (.pointer none) ∧ W.cell? ⟨w.heap.size, 1, none⟩ = some (.int .i64 m) ∧ W.cell? ⟨w.heap.size, 2, none⟩ = some (.int .i64 r) ∧ W.cell? ⟨w.heap.size, 3, none⟩ = some (.int .i64 f) ∧ W.cell? ⟨w.heap.size, 4, none⟩ = some (.string F) ∧ W.cell? ⟨w.heap.size, 5, none⟩ = some (.bool g) ∧ W.cell? ⟨w3.heap.size, 3, none⟩ = some (.string ⟨#[]⟩)) → ((W.setCell ⟨w.heap.size + 1 + 1, i, none⟩ v).cell? ⟨w.heap.size, 0, none⟩ = some (.pointer none) ∧ (W.setCell ⟨w.heap.size + 1 + 1, i, none⟩ v).cell? ⟨w.heap.size, 1, none⟩ = some (.int .i64 m) ∧ (W.setCell ⟨w.heap.size + 1 + 1, i, none⟩ v).cell? ⟨w.heap.size, 2, none⟩ = some (.int .i64 r) ∧ (W.setCell ⟨w.heap.size + 1 + 1, i, none⟩ v).cell? ⟨w.heap.size, 3, none⟩ = some (.int .i64 f) ∧ (W.setCell ⟨w.heap.size + 1 + 1, i, none⟩ v).cell? ⟨w.heap.size, 4, none⟩ = some (.string F) ∧ (W.setCell ⟨w.heap.size + 1 + 1, i, none⟩ v).cell? ⟨w.heap.size, 5, none⟩ = some (.bool g) ∧ (W.setCell ⟨w.heap.size + 1 + 1, i, none⟩ v).cell? ⟨w3.heap.size, 3, none⟩ = some (.string ⟨#[]⟩))) := fun W i v h => by
    obtain ⟨h0, h1, h2, h3, h4, h5, h6⟩ := h
    refine ⟨?_, ?_, ?_, ?_, ?_, ?_, ?_⟩
    all_goals
      rw [World.cell?_of_block (w := W) (heap_setCell_other W _ _ _ (by simp; try omega))]
      assumption
  clear hS5
  go_wp2_with fail
  go_region_held3 (fun W => W.cell? ⟨w.heap.size, 0, none⟩ = some (.pointer none) ∧ W.cell? ⟨w.heap.size, 1, none⟩ = some (.int .i64 m) ∧ W.cell? ⟨w.heap.size, 2, none⟩ = some (.int .i64 r) ∧ W.cell? ⟨w.heap.size, 3, none⟩ = some (.int .i64 f) ∧ W.cell? ⟨w.heap.size, 4, none⟩ = some (.string F) ∧ W.cell? ⟨w.heap.size, 5, none⟩ = some (.bool g) ∧ W.cell? ⟨w3.heap.size, 3, none⟩ = some (.string ⟨#[]⟩)) (first | with_reducible exact HS5.out | ((try with_reducible refine HKd.out _ ?_); (repeat (with_reducible refine HKs.out _ _ _ ?_)); with_reducible exact HS5.out)) (first | (go_at_call 23; refine (Body_nil _).mono ?_; rintro x w6 ⟨rfl, hw6⟩; rw [hw6]; clear hw6))
  go_wp2
  refine bodyPost_ret (v := .tuple #[.agg #[.pointer none, .int .i64 m, .int .i64 r, .int .i64 f, .string F, .bool g], .bool true]) (by simp [results, Tryz.results16, go_sem, r0, r1, r2, r3, r4, r5]) rfl ?_
  have hbb : Below w.heap.size w w5 := HB5.out
  refine ⟨rfl, ?_⟩
  (try (with_reducible refine Below.drew ?_))
  repeat (refine Below.setCell ?_ (by show w.heap.size ≤ w.heap.size + 1 + 1; omega) _)
  exact hbb

set_option maxHeartbeats 4000000 in
theorem stepn_4 (m r f : Int) (F : ByteArray) (g : Bool) (k : Int) (hk0 : -9223372036854775808 ≤ k) (hk1 : k ≤ 9223372036854775807) (S : ByteArray) (w : World) (hkj : kindN k 6 = 4) :
    Calls Tryz.prog 16 #[.agg #[.pointer none, .int .i64 m, .int .i64 r, .int .i64 f, .string F, .bool g], .agg #[.int .i64 k, .string S]] w fun e w' => e = .returned (.tuple #[.agg #[.pointer none, .int .i64 m, .int .i64 r, .int .i64 f, .string F, .bool g], .bool true]) ∧ Below w.heap.size w w' := by
  have HKJ : Hid (kindN k 6 = 4) := hkj
  clear hkj
  obtain ⟨W1, W2, W3, hB⟩ := three_blocks w (.pointer none) m r f F g k S
  obtain ⟨w2, hw2⟩ : ∃ w2, w2 = ((w.alloc (.cells #[.pointer none, .int .i64 m, .int .i64 r, .int .i64 f, .string F, .bool g] 49)).alloc (.cells #[.int .i64 k, .string S] 53)).alloc (.cells #[.pointer none, .int .i64 0, .int .i64 0, .int .i64 0, .string ⟨#[]⟩, .bool false] 49) := ⟨_, rfl⟩
  rw [← hw2] at W1 W2 W3 hB
  have HW2 : Hid (w2 = ((w.alloc (.cells #[.pointer none, .int .i64 m, .int .i64 r, .int .i64 f, .string F, .bool g] 49)).alloc (.cells #[.int .i64 k, .string S] 53)).alloc (.cells #[.pointer none, .int .i64 0, .int .i64 0, .int .i64 0, .string ⟨#[]⟩, .bool false] 49)) := hw2
  have HB2 : Hid (Below w.heap.size w w2) := hB
  have HP2 : Hid (PlB w2 w.heap.size (.pointer none) m r f F g) := W1
  have HO2 : Hid (OpB w2 (w.heap.size + 1) k S) := W2
  have HR2 : Hid (PlB w2 (w.heap.size + 1 + 1) (.pointer none) 0 0 0 ⟨#[]⟩ false) := W3
  obtain ⟨p0, p1, p2, p3, p4, p5⟩ := W1.c
  obtain ⟨o0, o1⟩ := W2.c
  clear hw2 hB W1 W2 W3
  go_enter Tryz.func16, Tryz.ntmps16
  go_wp2_with fail
  try rw [← HW2.out]
  try go_wp2_with fail
  refine (pwalk_nil m r f F g _).mono ?_
  rintro x w3 ⟨rfl, hb3⟩
  have HP3 : Hid (PlB w3 w.heap.size (.pointer none) m r f F g) := HP2.out.bel hb3
  have HO3 : Hid (OpB w3 (w.heap.size + 1) k S) := HO2.out.bel hb3
  have HR3 : Hid (PlB w3 (w.heap.size + 1 + 1) (.pointer none) 0 0 0 ⟨#[]⟩ false) := HR2.out.bel hb3
  have HB3 : Hid (Below w.heap.size w w3) := bel_trans HB2.out hb3
  clear hb3 p0 p1 p2 p3 p4 p5 o0 o1
  obtain ⟨w4, hw4⟩ : ∃ w4, w4 = w3.alloc (.cells #[.int .i64 0, .int .i64 0, .bool false, .string ⟨#[]⟩, .slice none 0 0] 74) := ⟨_, rfl⟩
  have hA4 : Below w3.heap.size w3 w4 := by rw [hw4]; exact (Below.refl _ _).alloc (Nat.le_refl _) _
  have HX4 : Hid (WB w4 w3.heap.size 0 0 false ⟨#[]⟩ (.slice none 0 0)) := (by rw [hw4]; exact heap_alloc_new _ _ : WB w4 w3.heap.size 0 0 false ⟨#[]⟩ (.slice none 0 0))
  have HW4 : Hid (w4 = w3.alloc (.cells #[.int .i64 0, .int .i64 0, .bool false, .string ⟨#[]⟩, .slice none 0 0] 74)) := hw4
  have HP4 : Hid (PlB w4 w.heap.size (.pointer none) m r f F g) := HP3.out.bel hA4
  have HO4 : Hid (OpB w4 (w.heap.size + 1) k S) := HO3.out.bel hA4
  have HR4 : Hid (PlB w4 (w.heap.size + 1 + 1) (.pointer none) 0 0 0 ⟨#[]⟩ false) := HR3.out.bel hA4
  have HB4 : Hid (Below w.heap.size w w4) := bel_trans HB3.out hA4
  obtain ⟨o0, o1⟩ := HO3.out.c
  have hlt31 : w.heap.size + 1 < w3.heap.size := by have := HR3.out.lt; omega
  have hlt3 := HR3.out.lt
  clear hw4 hA4
  go_wp2_with fail
  rw [← HW4.out]
  refine (kind_is w4 k 6 hk0 hk1 (by omega) (by omega)).mono ?_
  rintro x w5 ⟨rfl, hb5⟩
  rw [HKJ.out]
  have HX5 : Hid (WB w5 w3.heap.size 0 0 false ⟨#[]⟩ (.slice none 0 0)) := HX4.out.bel hb5
  have HP5 : Hid (PlB w5 w.heap.size (.pointer none) m r f F g) := HP4.out.bel hb5
  have HO5 : Hid (OpB w5 (w.heap.size + 1) k S) := HO4.out.bel hb5
  have HR5 : Hid (PlB w5 (w.heap.size + 1 + 1) (.pointer none) 0 0 0 ⟨#[]⟩ false) := HR4.out.bel hb5
  have HB5 : Hid (Below w.heap.size w w5) := bel_trans HB4.out hb5
  obtain ⟨x0, x1, x2, x3, x4⟩ := HX5.out.c
  obtain ⟨p0, p1, p2, p3, p4, p5⟩ := HP5.out.c
  obtain ⟨r0, r1, r2, r3, r4, r5⟩ := HR5.out.c
  have f0 := HR5.out.f 0
  have f1 := HR5.out.f 1
  have f2 := HR5.out.f 2
  have f3 := HR5.out.f 3
  have f4 := HR5.out.f 4
  have f5 := HR5.out.f 5
  have hsz5 := HR5.out.lt
  have hs5x := HX5.out.lt
  clear hb5 o0 o1 hlt31
  have hS5 : w5.cell? ⟨w.heap.size, 0, none⟩ = some (.pointer none) ∧ w5.cell? ⟨w.heap.size, 1, none⟩ = some (.int .i64 m) ∧ w5.cell? ⟨w.heap.size, 2, none⟩ = some (.int .i64 r) ∧ w5.cell? ⟨w.heap.size, 3, none⟩ = some (.int .i64 f) ∧ w5.cell? ⟨w.heap.size, 4, none⟩ = some (.string F) ∧ w5.cell? ⟨w.heap.size, 5, none⟩ = some (.bool g) ∧ w5.cell? ⟨w3.heap.size, 4, none⟩ = some (.slice none 0 0) := ⟨p0, p1, p2, p3, p4, p5, x4⟩
  have HS5 : Hid (w5.cell? ⟨w.heap.size, 0, none⟩ = some (.pointer none) ∧ w5.cell? ⟨w.heap.size, 1, none⟩ = some (.int .i64 m) ∧ w5.cell? ⟨w.heap.size, 2, none⟩ = some (.int .i64 r) ∧ w5.cell? ⟨w.heap.size, 3, none⟩ = some (.int .i64 f) ∧ w5.cell? ⟨w.heap.size, 4, none⟩ = some (.string F) ∧ w5.cell? ⟨w.heap.size, 5, none⟩ = some (.bool g) ∧ w5.cell? ⟨w3.heap.size, 4, none⟩ = some (.slice none 0 0)) := hS5
  have HKd : Hid (∀ W : World, (W.cell? ⟨w.heap.size, 0, none⟩ = some (.pointer none) ∧ W.cell? ⟨w.heap.size, 1, none⟩ = some (.int .i64 m) ∧ W.cell? ⟨w.heap.size, 2, none⟩ = some (.int .i64 r) ∧ W.cell? ⟨w.heap.size, 3, none⟩ = some (.int .i64 f) ∧ W.cell? ⟨w.heap.size, 4, none⟩ = some (.string F) ∧ W.cell? ⟨w.heap.size, 5, none⟩ = some (.bool g) ∧ W.cell? ⟨w3.heap.size, 4, none⟩ = some (.slice none 0 0)) → (W.drew.cell? ⟨w.heap.size, 0, none⟩ = some (.pointer none) ∧ W.drew.cell? ⟨w.heap.size, 1, none⟩ = some (.int .i64 m) ∧ W.drew.cell? ⟨w.heap.size, 2, none⟩ = some (.int .i64 r) ∧ W.drew.cell? ⟨w.heap.size, 3, none⟩ = some (.int .i64 f) ∧ W.drew.cell? ⟨w.heap.size, 4, none⟩ = some (.string F) ∧ W.drew.cell? ⟨w.heap.size, 5, none⟩ = some (.bool g) ∧ W.drew.cell? ⟨w3.heap.size, 4, none⟩ = some (.slice none 0 0))) := fun W h => h
  have HKs : Hid (∀ (W : World) (i : Nat) (v : Value), (W.cell? ⟨w.heap.size, 0, none⟩ = some (.pointer none) ∧ W.cell? ⟨w.heap.size, 1, none⟩ = some (.int .i64 m) ∧ W.cell? ⟨w.heap.size, 2, none⟩ = some (.int .i64 r) ∧ W.cell? ⟨w.heap.size, 3, none⟩ = some (.int .i64 f) ∧ W.cell? ⟨w.heap.size, 4, none⟩ = some (.string F) ∧ W.cell? ⟨w.heap.size, 5, none⟩ = some (.bool g) ∧ W.cell? ⟨w3.heap.size, 4, none⟩ = some (.slice none 0 0)) → ((W.setCell ⟨w.heap.size + 1 + 1, i, none⟩ v).cell? ⟨w.heap.size, 0, none⟩ = some (.pointer none) ∧ (W.setCell ⟨w.heap.size + 1 + 1, i, none⟩ v).cell? ⟨w.heap.size, 1, none⟩ = some (.int .i64 m) ∧ (W.setCell ⟨w.heap.size + 1 + 1, i, none⟩ v).cell? ⟨w.heap.size, 2, none⟩ = some (.int .i64 r) ∧ (W.setCell ⟨w.heap.size + 1 + 1, i, none⟩ v).cell? ⟨w.heap.size, 3, none⟩ = some (.int .i64 f) ∧ (W.setCell ⟨w.heap.size + 1 + 1, i, none⟩ v).cell? ⟨w.heap.size, 4, none⟩ = some (.string F) ∧ (W.setCell ⟨w.heap.size + 1 + 1, i, none⟩ v).cell? ⟨w.heap.size, 5, none⟩ = some (.bool g) ∧ (W.setCell ⟨w.heap.size + 1 + 1, i, none⟩ v).cell? ⟨w3.heap.size, 4, none⟩ = some (.slice none 0 0))) := fun W i v h => by
    obtain ⟨h0, h1, h2, h3, h4, h5, h6⟩ := h
    refine ⟨?_, ?_, ?_, ?_, ?_, ?_, ?_⟩
    all_goals
      rw [World.cell?_of_block (w := W) (heap_setCell_other W _ _ _ (by simp; try omega))]
      assumption
  clear hS5
  have HKb : Hid (∀ W : World, Below w5.heap.size w5 W → (W.cell? ⟨w.heap.size, 0, none⟩ = some (.pointer none) ∧ W.cell? ⟨w.heap.size, 1, none⟩ = some (.int .i64 m) ∧ W.cell? ⟨w.heap.size, 2, none⟩ = some (.int .i64 r) ∧ W.cell? ⟨w.heap.size, 3, none⟩ = some (.int .i64 f) ∧ W.cell? ⟨w.heap.size, 4, none⟩ = some (.string F) ∧ W.cell? ⟨w.heap.size, 5, none⟩ = some (.bool g) ∧ W.cell? ⟨w3.heap.size, 4, none⟩ = some (.slice none 0 0))) := fun W h => by
    obtain ⟨h0, h1, h2, h3, h4, h5, h6⟩ := HS5.out
    exact ⟨(But.of_below h).cell h0 (fun e => by cases e), (But.of_below h).cell h1 (fun e => by cases e), (But.of_below h).cell h2 (fun e => by cases e), (But.of_below h).cell h3 (fun e => by cases e), (But.of_below h).cell h4 (fun e => by cases e), (But.of_below h).cell h5 (fun e => by cases e), (But.of_below h).cell h6 (fun e => by cases e)⟩
  have HRb : Hid (∀ W : World, Below w5.heap.size w5 W → PlB W (w.heap.size + 1 + 1) (.pointer none) 0 0 0 ⟨#[]⟩ false) := fun W h => HR5.out.bel h
  have HRc : Hid (∀ W : World, Below w5.heap.size w5 W → (∀ i, W.frozen? ⟨w.heap.size + 1 + 1, i, none⟩ = false) ∧ W.cell? ⟨w.heap.size + 1 + 1, 0, none⟩ = some (.pointer none) ∧ W.cell? ⟨w.heap.size + 1 + 1, 1, none⟩ = some (.int .i64 0) ∧ W.cell? ⟨w.heap.size + 1 + 1, 2, none⟩ = some (.int .i64 0) ∧ W.cell? ⟨w.heap.size + 1 + 1, 3, none⟩ = some (.int .i64 0) ∧ W.cell? ⟨w.heap.size + 1 + 1, 4, none⟩ = some (.string ⟨#[]⟩) ∧ W.cell? ⟨w.heap.size + 1 + 1, 5, none⟩ = some (.bool false)) := fun W h => ⟨(HRb.out W h).f, (HRb.out W h).c⟩
  have HBn : Hid (Below w5.heap.size w5 w5.drew) := (Below.refl _ _).drew
  go_wp2_with fail
  go_region_held3 (fun W => W.cell? ⟨w.heap.size, 0, none⟩ = some (.pointer none) ∧ W.cell? ⟨w.heap.size, 1, none⟩ = some (.int .i64 m) ∧ W.cell? ⟨w.heap.size, 2, none⟩ = some (.int .i64 r) ∧ W.cell? ⟨w.heap.size, 3, none⟩ = some (.int .i64 f) ∧ W.cell? ⟨w.heap.size, 4, none⟩ = some (.string F) ∧ W.cell? ⟨w.heap.size, 5, none⟩ = some (.bool g) ∧ W.cell? ⟨w3.heap.size, 4, none⟩ = some (.slice none 0 0)) (first | with_reducible exact HS5.out | with_reducible exact HKb.out _ HBn.out | ((try with_reducible refine HKd.out _ ?_); (repeat (with_reducible refine HKs.out _ _ _ ?_)); with_reducible exact HKb.out _ HBn.out)) (first | (go_at_call 24; refine (Trailers_nil _).mono ?_; rintro x w6 ⟨rfl, hw6⟩; rw [hw6]; clear hw6) | (go_at_call 14; refine (same_any (.slice none 0 0) (.slice none 0 0) [] _ ⟨none, 0, rfl, .inl rfl⟩ ⟨none, 0, rfl, .inl rfl⟩ (by simp)).mono ?_; rintro x w7 ⟨rfl, hb7⟩; have HBn : Hid (Below w5.heap.size w5 w7) := bel_trans HBn.out hb7; obtain ⟨yf, y0, y1, y2, y3, y4, y5⟩ := HRc.out _ HBn.out; have yf0 := yf 0; have yf1 := yf 1; have yf2 := yf 2; have yf3 := yf 3; have yf4 := yf 4; have yf5 := yf 5; clear yf hb7))
  go_wp2
  refine bodyPost_ret (v := .tuple #[.agg #[.pointer none, .int .i64 m, .int .i64 r, .int .i64 f, .string F, .bool g], .bool true]) (by simp [results, Tryz.results16, go_sem, y0, y1, y2, y3, y4, y5]) rfl ?_
  have hbb : Below w.heap.size w w7 := bel_trans HB5.out HBn.out
  refine ⟨rfl, ?_⟩
  (try (with_reducible refine Below.drew ?_))
  repeat (refine Below.setCell ?_ (by show w.heap.size ≤ w.heap.size + 1 + 1; omega) _)
  exact hbb

set_option maxHeartbeats 4000000 in
theorem stepn_5 (m r f : Int) (F : ByteArray) (g : Bool) (k : Int) (hk0 : -9223372036854775808 ≤ k) (hk1 : k ≤ 9223372036854775807) (S : ByteArray) (w : World) (hkj : kindN k 6 = 5) :
    Calls Tryz.prog 16 #[.agg #[.pointer none, .int .i64 m, .int .i64 r, .int .i64 f, .string F, .bool g], .agg #[.int .i64 k, .string S]] w fun e w' => e = .returned (.tuple #[.agg #[.pointer none, .int .i64 m, .int .i64 r, .int .i64 f, .string F, .bool g], .bool true]) ∧ Below w.heap.size w w' := by
  have HKJ : Hid (kindN k 6 = 5) := hkj
  clear hkj
  obtain ⟨W1, W2, W3, hB⟩ := three_blocks w (.pointer none) m r f F g k S
  obtain ⟨w2, hw2⟩ : ∃ w2, w2 = ((w.alloc (.cells #[.pointer none, .int .i64 m, .int .i64 r, .int .i64 f, .string F, .bool g] 49)).alloc (.cells #[.int .i64 k, .string S] 53)).alloc (.cells #[.pointer none, .int .i64 0, .int .i64 0, .int .i64 0, .string ⟨#[]⟩, .bool false] 49) := ⟨_, rfl⟩
  rw [← hw2] at W1 W2 W3 hB
  have HW2 : Hid (w2 = ((w.alloc (.cells #[.pointer none, .int .i64 m, .int .i64 r, .int .i64 f, .string F, .bool g] 49)).alloc (.cells #[.int .i64 k, .string S] 53)).alloc (.cells #[.pointer none, .int .i64 0, .int .i64 0, .int .i64 0, .string ⟨#[]⟩, .bool false] 49)) := hw2
  have HB2 : Hid (Below w.heap.size w w2) := hB
  have HP2 : Hid (PlB w2 w.heap.size (.pointer none) m r f F g) := W1
  have HO2 : Hid (OpB w2 (w.heap.size + 1) k S) := W2
  have HR2 : Hid (PlB w2 (w.heap.size + 1 + 1) (.pointer none) 0 0 0 ⟨#[]⟩ false) := W3
  obtain ⟨p0, p1, p2, p3, p4, p5⟩ := W1.c
  obtain ⟨o0, o1⟩ := W2.c
  clear hw2 hB W1 W2 W3
  go_enter Tryz.func16, Tryz.ntmps16
  go_wp2_with fail
  try rw [← HW2.out]
  try go_wp2_with fail
  refine (pwalk_nil m r f F g _).mono ?_
  rintro x w3 ⟨rfl, hb3⟩
  have HP3 : Hid (PlB w3 w.heap.size (.pointer none) m r f F g) := HP2.out.bel hb3
  have HO3 : Hid (OpB w3 (w.heap.size + 1) k S) := HO2.out.bel hb3
  have HR3 : Hid (PlB w3 (w.heap.size + 1 + 1) (.pointer none) 0 0 0 ⟨#[]⟩ false) := HR2.out.bel hb3
  have HB3 : Hid (Below w.heap.size w w3) := bel_trans HB2.out hb3
  clear hb3 p0 p1 p2 p3 p4 p5 o0 o1
  obtain ⟨w4, hw4⟩ : ∃ w4, w4 = w3.alloc (.cells #[.int .i64 0, .int .i64 0, .bool false, .string ⟨#[]⟩, .slice none 0 0] 74) := ⟨_, rfl⟩
  have hA4 : Below w3.heap.size w3 w4 := by rw [hw4]; exact (Below.refl _ _).alloc (Nat.le_refl _) _
  have HX4 : Hid (WB w4 w3.heap.size 0 0 false ⟨#[]⟩ (.slice none 0 0)) := (by rw [hw4]; exact heap_alloc_new _ _ : WB w4 w3.heap.size 0 0 false ⟨#[]⟩ (.slice none 0 0))
  have HW4 : Hid (w4 = w3.alloc (.cells #[.int .i64 0, .int .i64 0, .bool false, .string ⟨#[]⟩, .slice none 0 0] 74)) := hw4
  have HP4 : Hid (PlB w4 w.heap.size (.pointer none) m r f F g) := HP3.out.bel hA4
  have HO4 : Hid (OpB w4 (w.heap.size + 1) k S) := HO3.out.bel hA4
  have HR4 : Hid (PlB w4 (w.heap.size + 1 + 1) (.pointer none) 0 0 0 ⟨#[]⟩ false) := HR3.out.bel hA4
  have HB4 : Hid (Below w.heap.size w w4) := bel_trans HB3.out hA4
  obtain ⟨o0, o1⟩ := HO3.out.c
  have hlt31 : w.heap.size + 1 < w3.heap.size := by have := HR3.out.lt; omega
  have hlt3 := HR3.out.lt
  clear hw4 hA4
  go_wp2_with fail
  rw [← HW4.out]
  refine (kind_is w4 k 6 hk0 hk1 (by omega) (by omega)).mono ?_
  rintro x w5 ⟨rfl, hb5⟩
  rw [HKJ.out]
  have HX5 : Hid (WB w5 w3.heap.size 0 0 false ⟨#[]⟩ (.slice none 0 0)) := HX4.out.bel hb5
  have HP5 : Hid (PlB w5 w.heap.size (.pointer none) m r f F g) := HP4.out.bel hb5
  have HO5 : Hid (OpB w5 (w.heap.size + 1) k S) := HO4.out.bel hb5
  have HR5 : Hid (PlB w5 (w.heap.size + 1 + 1) (.pointer none) 0 0 0 ⟨#[]⟩ false) := HR4.out.bel hb5
  have HB5 : Hid (Below w.heap.size w w5) := bel_trans HB4.out hb5
  obtain ⟨x0, x1, x2, x3, x4⟩ := HX5.out.c
  obtain ⟨p0, p1, p2, p3, p4, p5⟩ := HP5.out.c
  obtain ⟨r0, r1, r2, r3, r4, r5⟩ := HR5.out.c
  have f0 := HR5.out.f 0
  have f1 := HR5.out.f 1
  have f2 := HR5.out.f 2
  have f3 := HR5.out.f 3
  have f4 := HR5.out.f 4
  have f5 := HR5.out.f 5
  have hsz5 := HR5.out.lt
  have hs5x := HX5.out.lt
  clear hb5 o0 o1 hlt31
  have hS5 : w5.cell? ⟨w.heap.size, 0, none⟩ = some (.pointer none) ∧ w5.cell? ⟨w.heap.size, 1, none⟩ = some (.int .i64 m) ∧ w5.cell? ⟨w.heap.size, 2, none⟩ = some (.int .i64 r) ∧ w5.cell? ⟨w.heap.size, 3, none⟩ = some (.int .i64 f) ∧ w5.cell? ⟨w.heap.size, 4, none⟩ = some (.string F) ∧ w5.cell? ⟨w.heap.size, 5, none⟩ = some (.bool g) ∧ w5.cell? ⟨w3.heap.size, 0, none⟩ = some (.int .i64 0) := ⟨p0, p1, p2, p3, p4, p5, x0⟩
  have HS5 : Hid (w5.cell? ⟨w.heap.size, 0, none⟩ = some (.pointer none) ∧ w5.cell? ⟨w.heap.size, 1, none⟩ = some (.int .i64 m) ∧ w5.cell? ⟨w.heap.size, 2, none⟩ = some (.int .i64 r) ∧ w5.cell? ⟨w.heap.size, 3, none⟩ = some (.int .i64 f) ∧ w5.cell? ⟨w.heap.size, 4, none⟩ = some (.string F) ∧ w5.cell? ⟨w.heap.size, 5, none⟩ = some (.bool g) ∧ w5.cell? ⟨w3.heap.size, 0, none⟩ = some (.int .i64 0)) := hS5
  have HKd : Hid (∀ W : World, (W.cell? ⟨w.heap.size, 0, none⟩ = some (.pointer none) ∧ W.cell? ⟨w.heap.size, 1, none⟩ = some (.int .i64 m) ∧ W.cell? ⟨w.heap.size, 2, none⟩ = some (.int .i64 r) ∧ W.cell? ⟨w.heap.size, 3, none⟩ = some (.int .i64 f) ∧ W.cell? ⟨w.heap.size, 4, none⟩ = some (.string F) ∧ W.cell? ⟨w.heap.size, 5, none⟩ = some (.bool g) ∧ W.cell? ⟨w3.heap.size, 0, none⟩ = some (.int .i64 0)) → (W.drew.cell? ⟨w.heap.size, 0, none⟩ = some (.pointer none) ∧ W.drew.cell? ⟨w.heap.size, 1, none⟩ = some (.int .i64 m) ∧ W.drew.cell? ⟨w.heap.size, 2, none⟩ = some (.int .i64 r) ∧ W.drew.cell? ⟨w.heap.size, 3, none⟩ = some (.int .i64 f) ∧ W.drew.cell? ⟨w.heap.size, 4, none⟩ = some (.string F) ∧ W.drew.cell? ⟨w.heap.size, 5, none⟩ = some (.bool g) ∧ W.drew.cell? ⟨w3.heap.size, 0, none⟩ = some (.int .i64 0))) := fun W h => h
  have HKs : Hid (∀ (W : World) (i : Nat) (v : Value), (W.cell? ⟨w.heap.size, 0, none⟩ = some (.pointer none) ∧ W.cell? ⟨w.heap.size, 1, none⟩ = some (.int .i64 m) ∧ W.cell? ⟨w.heap.size, 2, none⟩ = some (.int .i64 r) ∧ W.cell? ⟨w.heap.size, 3, none⟩ = some (.int .i64 f) ∧ W.cell? ⟨w.heap.size, 4, none⟩ = some (.string F) ∧ W.cell? ⟨w.heap.size, 5, none⟩ = some (.bool g) ∧ W.cell? ⟨w3.heap.size, 0, none⟩ = some (.int .i64 0)) → ((W.setCell ⟨w.heap.size + 1 + 1, i, none⟩ v).cell? ⟨w.heap.size, 0, none⟩ = some (.pointer none) ∧ (W.setCell ⟨w.heap.size + 1 + 1, i, none⟩ v).cell? ⟨w.heap.size, 1, none⟩ = some (.int .i64 m) ∧ (W.setCell ⟨w.heap.size + 1 + 1, i, none⟩ v).cell? ⟨w.heap.size, 2, none⟩ = some (.int .i64 r) ∧ (W.setCell ⟨w.heap.size + 1 + 1, i, none⟩ v).cell? ⟨w.heap.size, 3, none⟩ = some (.int .i64 f) ∧ (W.setCell ⟨w.heap.size + 1 + 1, i, none⟩ v).cell? ⟨w.heap.size, 4, none⟩ = some (.string F) ∧ (W.setCell ⟨w.heap.size + 1 + 1, i, none⟩ v).cell? ⟨w.heap.size, 5, none⟩ = some (.bool g) ∧ (W.setCell ⟨w.heap.size + 1 + 1, i, none⟩ v).cell? ⟨w3.heap.size, 0, none⟩ = some (.int .i64 0))) := fun W i v h => by
    obtain ⟨h0, h1, h2, h3, h4, h5, h6⟩ := h
    refine ⟨?_, ?_, ?_, ?_, ?_, ?_, ?_⟩
    all_goals
      rw [World.cell?_of_block (w := W) (heap_setCell_other W _ _ _ (by simp; try omega))]
      assumption
  clear hS5
  go_wp2_with fail
  go_region_held3 (fun W => W.cell? ⟨w.heap.size, 0, none⟩ = some (.pointer none) ∧ W.cell? ⟨w.heap.size, 1, none⟩ = some (.int .i64 m) ∧ W.cell? ⟨w.heap.size, 2, none⟩ = some (.int .i64 r) ∧ W.cell? ⟨w.heap.size, 3, none⟩ = some (.int .i64 f) ∧ W.cell? ⟨w.heap.size, 4, none⟩ = some (.string F) ∧ W.cell? ⟨w.heap.size, 5, none⟩ = some (.bool g) ∧ W.cell? ⟨w3.heap.size, 0, none⟩ = some (.int .i64 0)) (first | with_reducible exact HS5.out | ((try with_reducible refine HKd.out _ ?_); (repeat (with_reducible refine HKs.out _ _ _ ?_)); with_reducible exact HS5.out)) (first | (go_at_call 31; refine (Total_nil _).mono ?_; rintro x w6 ⟨rfl, hw6⟩; rw [hw6]; clear hw6))
  go_wp2
  refine bodyPost_ret (v := .tuple #[.agg #[.pointer none, .int .i64 m, .int .i64 r, .int .i64 f, .string F, .bool g], .bool true]) (by simp [results, Tryz.results16, go_sem, r0, r1, r2, r3, r4, r5]) rfl ?_
  have hbb : Below w.heap.size w w5 := HB5.out
  refine ⟨rfl, ?_⟩
  (try (with_reducible refine Below.drew ?_))
  repeat (refine Below.setCell ?_ (by show w.heap.size ≤ w.heap.size + 1 + 1; omega) _)
  exact hbb

theorem step_nil (m r f : Int) (F : ByteArray) (g : Bool) (k : Int) (hk0 : -9223372036854775808 ≤ k) (hk1 : k ≤ 9223372036854775807) (S : ByteArray) (w : World) :
    Calls Tryz.prog 16 #[.agg #[.pointer none, .int .i64 m, .int .i64 r, .int .i64 f, .string F, .bool g], .agg #[.int .i64 k, .string S]] w fun e w' => e = .returned (.tuple #[.agg #[.pointer none, .int .i64 m, .int .i64 r, .int .i64 f, .string F, .bool g], .bool true]) ∧ Below w.heap.size w w' := by
  have h := kindN_lt k
  have hc : kindN k 6 = 0 ∨ kindN k 6 = 1 ∨ kindN k 6 = 2 ∨ kindN k 6 = 3 ∨ kindN k 6 = 4 ∨ kindN k 6 = 5 := by omega
  rcases hc with h | h | h | h | h | h
  · exact stepn_0 m r f F g k hk0 hk1 S w h
  · exact stepn_1 m r f F g k hk0 hk1 S w h
  · exact stepn_2 m r f F g k hk0 hk1 S w h
  · exact stepn_3 m r f F g k hk0 hk1 S w h
  · exact stepn_4 m r f F g k hk0 hk1 S w h
  · exact stepn_5 m r f F g k hk0 hk1 S w h

end Ck
end Go.Proofs.YtdbnlpnnfnodnaaGreatDoor

/-
  A script of calls that came in.
-/
set_option linter.unusedVariables false
set_option linter.unusedSimpArgs false
namespace Go.Proofs.YtdbnlpnnfnodnaaGreatDoor
open Go.ChangeShapes Go.WideShapes Go.RowKit
namespace Ck
open Oc

/-- A call: its kind, its text. -/
abbrev Cl := Int × ByteArray
def nthC (l : List Cl) (j : Nat) : Cl := l.getD j (0, ⟨#[]⟩)
/-- The value is a slice of these calls. -/
def RdO (v : Value) (l : List Cl) (w : World) : Prop :=
  ∃ a c, v = .slice a l.length c ∧ (∀ x ∈ l, -9223372036854775808 ≤ x.1 ∧ x.1 ≤ 9223372036854775807) ∧ (l = [] ∨ ∃ g o, a = some ⟨g, o, none⟩ ∧ l.length ≤ c ∧ ∀ j, j < l.length → w.cell? ⟨g, o + j * 2, none⟩ = some (.int .i64 (nthC l j).1) ∧ w.cell? ⟨g, o + j * 2 + 1, none⟩ = some (.string (nthC l j).2))
theorem RdO.below {v : Value} {l : List Cl} {w w' : World} (h : RdO v l w) (b : Below w.heap.size w w') : RdO v l w' := by
  obtain ⟨a, c, rfl, hr, h⟩ := h
  refine ⟨a, c, rfl, hr, ?_⟩
  rcases h with h | ⟨g, o, e, hc, hcell⟩
  · exact .inl h
  · exact .inr ⟨g, o, e, hc, fun j hj => ⟨(But.of_below b).cell (hcell j hj).1 (fun e => by cases e), (But.of_below b).cell (hcell j hj).2 (fun e => by cases e)⟩⟩
def sumC (l : List Cl) : Nat := (l.map (fun x => x.2.size + 3)).sum
def clOf {H : Type} (y : DataW H × List MemPlace) : Cl := match y.1 with | .agg [.lit (.int .i64 k), .lit (.string b)] => (k, str b) | _ => (0, ⟨#[]⟩)
theorem bulk_cls {H : Type} : ∀ es : List (DataW H × List MemPlace), (∀ y ∈ es, ∃ k b, y.1 = .agg [.lit (.int .i64 k), .lit (.string b)]) → Rows.uptoBulkAll (es.map (·.1)) = sumC (es.map clOf)
  | [], _ => by simp [sumC, Rows.uptoBulkAll]
  | y :: es, h => by
    have ih := bulk_cls es (fun z hz => h z (List.mem_cons_of_mem _ hz))
    obtain ⟨k, b, e⟩ := h y (by simp)
    have hs := str_size b
    simp only [sumC, List.map_cons, List.sum_cons, Rows.uptoBulkAll, ih, e, clOf, Rows.uptoBulk] at ih ⊢
    omega
theorem addr_add' (g o k : Nat) : Addr.add ⟨g, o, none⟩ k = ⟨g, o + k, none⟩ := by unfold Addr.add; split <;> simp_all
theorem cells9' : Tryz.prog.cellsOf 9 = 1 := by kernel_rfl
theorem cellsOp : Tryz.prog.cellsOf 53 = 2 := by kernel_rfl
theorem wfi {x : Int} (h : (Lit.int .i64 x).wf = true) : -9223372036854775808 ≤ x ∧ x ≤ 9223372036854775807 := by
  simpa [Lit.wf, IntKind.min, IntKind.max, IntKind.signed, IntKind.bits] using h
set_option maxRecDepth 100000 in
theorem open_ops {H : Type} {enc : TypeId × Value → H} {W : World} {base : Nat} {v : Value} {d : DataW H} {ps : List MemPlace} (hval : Value.okWide Tryz.prog W .any base 46 v)
    (h : DataW.Trod enc Tryz.prog W 0 (fun _ => true) true 46 v d ps) : ∃ t : List Cl, RdO v t W ∧ sumC t ≤ Rows.uptoBulk d := by
  obtain ⟨a0, len, cap, rfl⟩ := okWide_slice Tryz.underlying46 hval
  obtain ⟨fuel, hf⟩ := h
  rcases DataW.trod_slice Tryz.underlying46 hf with ⟨hcs, hx⟩ | ⟨a, len', cap', elems, rest, n, _, hcs, hx, hb, hl, hm, hlen, hel, _, _⟩
  · simp [Value.cells] at hcs
    obtain ⟨rfl, rfl, rfl⟩ := hcs
    exact ⟨[], ⟨none, 0, rfl, (fun _ h => by cases h), .inl rfl⟩, by simp [sumC]⟩
  · simp [Value.cells] at hcs
    obtain ⟨rfl, rfl, rfl⟩ := hcs
    simp only [Prod.mk.injEq] at hx
    obtain ⟨rfl, rfl⟩ := hx
    have each : ∀ i y, elems[i]? = some y → ∃ (k : Int) (s2 : ByteArray), y.1 = .agg [.lit (.int .i64 k), .lit (.string s2.data.toList)] ∧ (Lit.int .i64 k).wf = true ∧ W.cell? ((a.add (i * 2)).add 0) = some (.int .i64 k) ∧ W.cell? ((a.add (i * 2)).add 1) = some (.string s2) := by
      intro i y hy
      have hi : i < len := by rw [← hlen]; exact (List.getElem?_eq_some_iff.1 hy).1
      have h1 := hel i hi
      rw [hy, cellsOp, Option.bind_eq_some_iff] at h1
      obtain ⟨cs, hcs, ht⟩ := h1
      obtain ⟨ys, m, _, hx, hl4, hy4, hfs⟩ := DataW.trod_struct Tryz.underlying53 ht
      rw [cellsOp] at hl4
      have hcc := (World.cells?_some hcs).2.2
      have t0 := hfs 0 _ rfl
      have t1 := hfs 1 _ rfl
      match cs, hl4 with
      | [x0, x1], _ =>
        match ys, hy4 with
        | [y0, y1], _ =>
          simp [cellsI, cells9'] at t0 t1
          obtain ⟨m0, e0, q0, w0⟩ := DataW.trod_int Tryz.underlying3 t0
          obtain ⟨m1, e1, q1, w1⟩ := DataW.trod_string Tryz.underlying9 t1
          simp at e0 e1
          subst e0 e1
          subst q0 q1
          refine ⟨m0, m1, ?_, w0, hcc 0 (by omega), hcc 1 (by omega)⟩
          rw [hx]
          rfl
    refine ⟨elems.map clOf, ⟨some a, cap, by rw [List.length_map, hlen], ?_, ?_⟩, ?_⟩
    · intro x hx
      obtain ⟨y, hy, rfl⟩ := List.mem_map.1 hx
      obtain ⟨i, hi, rfl⟩ := List.mem_iff_getElem.1 hy
      obtain ⟨k, s2, ey, hw, _, _⟩ := each i _ (List.getElem?_eq_getElem hi)
      unfold clOf
      rw [ey]
      exact wfi hw
    · by_cases hl0 : len = 0
      · left
        have : elems = [] := List.length_eq_zero_iff.1 (by omega)
        rw [this]; rfl
      · right
        obtain ⟨g, o, spot⟩ := a
        have hspot : spot = none := by
          obtain ⟨y, hy⟩ : ∃ y, elems[0]? = some y := ⟨elems[0]'(by omega), List.getElem?_eq_getElem (by omega)⟩
          obtain ⟨s1, s2, _, _, c0, _⟩ := each 0 y hy
          simpa [Addr.add] using World.cell?_spot c0
        subst hspot
        refine ⟨g, o, rfl, by rw [List.length_map, hlen]; exact hl, fun j hj => ?_⟩
        rw [List.length_map] at hj
        obtain ⟨k, s2, ey, hw, c0, c1⟩ := each j _ (List.getElem?_eq_getElem hj)
        have en : nthC (elems.map clOf) j = (k, s2) := by
          unfold nthC
          rw [List.getD_eq_getElem?_getD, List.getElem?_map, List.getElem?_eq_getElem hj]
          simp only [Option.map_some, Option.getD_some, clOf, ey, str_self]
        rw [en]
        refine ⟨?_, ?_⟩
        · have h := c0
          rw [addr_add', addr_add'] at h
          exact h
        · have h := c1
          rw [addr_add', addr_add'] at h
          exact h
    · have hall : ∀ y ∈ elems, ∃ k b, y.1 = .agg [.lit (.int .i64 k), .lit (.string b)] := fun y hy => by
        obtain ⟨i, hi, rfl⟩ := List.mem_iff_getElem.1 hy
        obtain ⟨k, s2, ey, _⟩ := each i _ (List.getElem?_eq_getElem hi)
        exact ⟨k, _, ey⟩
      have hbk := bulk_cls elems hall
      simp only [Rows.uptoBulk]
      omega

end Ck
end Go.Proofs.YtdbnlpnnfnodnaaGreatDoor

/-
  A decoder that is played: how it begins; the law ChunkFeeds.
-/
set_option linter.unusedVariables false
set_option linter.unusedSimpArgs false
set_option maxRecDepth 100000
namespace Go.Proofs.YtdbnlpnnfnodnaaGreatDoor
open Go.RowKit Go.Shelf
namespace Ck
open Oc Tg _root_.Go.Proofs.YtdbnlpnnfnodnaaGreatDoor.Fd

theorem step_any {w0 w : World} {D : Nat} {m r f : Int} {F : ByteArray} {g : Bool} {s : DS} {bs : List Nat} (hbase : Base w0 w bs) (hpl : Play w D m r f F g s bs) (hm0 : 0 ≤ m) (hm1 : m ≤ 9223372036854775807) (hr0 : 0 ≤ r) (hr1 : r ≤ 9223372036854775807) (hf0 : 0 ≤ f) (hf1 : f ≤ 9223372036854775807) (k : Int) (hk0 : -9223372036854775808 ≤ k) (hk1 : k ≤ 9223372036854775807) (S : ByteArray) (hsF : F.size + S.size ≤ 1048576) :
    Calls Tryz.prog 16 #[.agg #[.pointer (some ⟨D, 0, none⟩), .int .i64 m, .int .i64 r, .int .i64 f, .string F, .bool g], .agg #[.int .i64 k, .string S]] w (StepP w D m r f F S bs) := by
  have h := kindN_lt k
  have hc : kindN k 6 = 0 ∨ kindN k 6 = 1 ∨ kindN k 6 = 2 ∨ kindN k 6 = 3 ∨ kindN k 6 = 4 ∨ kindN k 6 = 5 := by omega
  rcases hc with h | h | h | h | h | h
  · exact step_0 hbase hpl hm0 hm1 hr0 hr1 hf0 hf1 k hk0 hk1 S hsF h
  · exact step_1 hbase hpl hm0 hm1 hr0 hr1 hf0 hf1 k hk0 hk1 S hsF h
  · exact step_2 hbase hpl hm0 hm1 hr0 hr1 hf0 hf1 k hk0 hk1 S hsF h
  · exact step_3 hbase hpl hm0 hm1 hr0 hr1 hf0 hf1 k hk0 hk1 S hsF h
  · exact step_4 hbase hpl hm0 hm1 hr0 hr1 hf0 hf1 k hk0 hk1 S hsF h
  · exact step_5 hbase hpl hm0 hm1 hr0 hr1 hf0 hf1 k hk0 hk1 S hsF h

set_option maxHeartbeats 2000000 in
theorem begun_ok (m r f : Int) (hm0 : 0 ≤ m) (hr0 : 0 ≤ r) (hf0 : 0 ≤ f) (w : World) : Calls Tryz.prog 15 #[.agg #[.int .i64 m, .int .i64 r, .int .i64 f]] w fun e w' => ∃ D, e = .returned (.tuple #[.agg #[.pointer (some ⟨D, 0, none⟩), .int .i64 m, .int .i64 r, .int .i64 f, .string ⟨#[]⟩, .bool false], .bool true]) ∧ Dec w' D (new m r f) [D] ∧ w.heap.size ≤ D ∧ Below w.heap.size w w' := by
  obtain ⟨w1, hw1⟩ : ∃ w1, w1 = w.alloc (.cells #[.int .i64 m, .int .i64 r, .int .i64 f] 37) := ⟨_, rfl⟩
  have hs1 : w1.heap.size = w.heap.size + 1 := by rw [hw1]; simp
  have hb1 : Below w.heap.size w w1 := by rw [hw1]; exact (Below.refl _ w).alloc (Nat.le_refl _) _
  have R1 : w1.heap[w.heap.size]? = some (.cells #[.int .i64 m, .int .i64 r, .int .i64 f] 37 (0, 0)) := by rw [hw1]; exact heap_alloc_new _ _
  obtain ⟨w2, hw2⟩ : ∃ w2, w2 = w1.alloc (.cells #[.pointer none, .int .i64 0, .int .i64 0, .int .i64 0, .string ⟨#[]⟩, .bool false] 49) := ⟨_, rfl⟩
  have hb2 : Below w1.heap.size w1 w2 := by rw [hw2]; exact (Below.refl _ _).alloc (Nat.le_refl _) _
  have HR2 : Hid (PlB w2 (w.heap.size + 1) (.pointer none) 0 0 0 ⟨#[]⟩ false) := (by rw [hw2, ← hs1]; exact heap_alloc_new _ _ : PlB w2 (w.heap.size + 1) (.pointer none) 0 0 0 ⟨#[]⟩ false)
  have HL2 : Hid (w2.heap[w.heap.size]? = some (.cells #[.int .i64 m, .int .i64 r, .int .i64 f] 37 (0, 0))) := (But.of_below hb2).heap R1 (fun e => by cases e)
  have HB2 : Hid (Below w.heap.size w w2) := bel_trans hb1 hb2
  have HW2 : Hid (w2 = (w.alloc (.cells #[.int .i64 m, .int .i64 r, .int .i64 f] 37)).alloc (.cells #[.pointer none, .int .i64 0, .int .i64 0, .int .i64 0, .string ⟨#[]⟩, .bool false] 49)) := (by rw [hw2, hw1] : w2 = (w.alloc (.cells #[.int .i64 m, .int .i64 r, .int .i64 f] 37)).alloc (.cells #[.pointer none, .int .i64 0, .int .i64 0, .int .i64 0, .string ⟨#[]⟩, .bool false] 49))
  have k0 : w2.cell? ⟨w.heap.size, 0, none⟩ = some (.int .i64 m) := by rw [cell_of_row w2 _ _ _ _ _ HL2.out]; rfl
  have k1 : w2.cell? ⟨w.heap.size, 1, none⟩ = some (.int .i64 r) := by rw [cell_of_row w2 _ _ _ _ _ HL2.out]; rfl
  have k2 : w2.cell? ⟨w.heap.size, 2, none⟩ = some (.int .i64 f) := by rw [cell_of_row w2 _ _ _ _ _ HL2.out]; rfl
  clear hw1 hs1 hb1 R1 hw2 hb2
  go_enter Tryz.func15, Tryz.ntmps15
  go_wp2_with fail
  rw [← HW2.out]
  refine (New_ok m r f hm0 hr0 hf0 _).mono ?_
  rintro x w3 ⟨rfl, hd3, hb3⟩
  have HR3 : Hid (PlB w3 (w.heap.size + 1) (.pointer none) 0 0 0 ⟨#[]⟩ false) := HR2.out.bel hb3
  have HL3 : Hid (w3.heap[w.heap.size]? = some (.cells #[.int .i64 m, .int .i64 r, .int .i64 f] 37 (0, 0))) := (But.of_below hb3).heap HL2.out (fun e => by cases e)
  have HB3 : Hid (Below w.heap.size w w3) := bel_trans HB2.out hb3
  have hlt2 := HR2.out.lt
  have HD3 : Hid (Dec w3 w2.heap.size (new m r f) [w2.heap.size]) := hd3
  generalize hDD : w2.heap.size = DD at *
  clear hd3 hDD
  clear hb3 k0 k1 k2
  have k0 : w3.cell? ⟨w.heap.size, 0, none⟩ = some (.int .i64 m) := by rw [cell_of_row w3 _ _ _ _ _ HL3.out]; rfl
  have k1 : w3.cell? ⟨w.heap.size, 1, none⟩ = some (.int .i64 r) := by rw [cell_of_row w3 _ _ _ _ _ HL3.out]; rfl
  have k2 : w3.cell? ⟨w.heap.size, 2, none⟩ = some (.int .i64 f) := by rw [cell_of_row w3 _ _ _ _ _ HL3.out]; rfl
  obtain ⟨r0, r1, r2, r3, r4, r5⟩ := HR3.out.c
  have f0 := HR3.out.f 0
  have f1 := HR3.out.f 1
  have f2 := HR3.out.f 2
  have f3 := HR3.out.f 3
  have f4 := HR3.out.f 4
  have f5 := HR3.out.f 5
  go_wp2_with fail
  refine (rLimits_ok m r f hm0 hr0 hf0 _).mono ?_
  rintro x w4 ⟨rfl, hw4⟩
  rw [hw4]
  clear hw4
  go_wp2
  refine bodyPost_ret (v := .tuple #[.agg #[.pointer (some ⟨DD, 0, none⟩), .int .i64 m, .int .i64 r, .int .i64 f, .string ⟨#[]⟩, .bool false], .bool true]) (by simp [results, Tryz.results15, go_sem, r0, r1, r2, r3, r4, r5]) rfl ?_
  refine ⟨DD, rfl, ?_, by omega, ?_⟩
  · repeat (with_reducible refine Dec.far ?_ (by show w.heap.size + 1 ∉ [DD]; simp; omega) _)
    exact HD3.out
  · repeat (with_reducible refine Below.setCell ?_ (by show w.heap.size ≤ w.heap.size + 1; omega) _)
    exact HB3.out

set_option maxHeartbeats 2000000 in
theorem begun_no (m r f : Int) (hneg : m < 0 ∨ r < 0 ∨ f < 0) (w : World) : Calls Tryz.prog 15 #[.agg #[.int .i64 m, .int .i64 r, .int .i64 f]] w fun e w' => e = .returned (.tuple #[.agg #[.pointer none, .int .i64 m, .int .i64 r, .int .i64 f, .string ⟨#[]⟩, .bool false], .bool true]) ∧ Below w.heap.size w w' := by
  have HNg : Hid (m < 0 ∨ r < 0 ∨ f < 0) := hneg
  clear hneg
  obtain ⟨w1, hw1⟩ : ∃ w1, w1 = w.alloc (.cells #[.int .i64 m, .int .i64 r, .int .i64 f] 37) := ⟨_, rfl⟩
  have hs1 : w1.heap.size = w.heap.size + 1 := by rw [hw1]; simp
  have hb1 : Below w.heap.size w w1 := by rw [hw1]; exact (Below.refl _ w).alloc (Nat.le_refl _) _
  have R1 : w1.heap[w.heap.size]? = some (.cells #[.int .i64 m, .int .i64 r, .int .i64 f] 37 (0, 0)) := by rw [hw1]; exact heap_alloc_new _ _
  obtain ⟨w2, hw2⟩ : ∃ w2, w2 = w1.alloc (.cells #[.pointer none, .int .i64 0, .int .i64 0, .int .i64 0, .string ⟨#[]⟩, .bool false] 49) := ⟨_, rfl⟩
  have hb2 : Below w1.heap.size w1 w2 := by rw [hw2]; exact (Below.refl _ _).alloc (Nat.le_refl _) _
  have HR2 : Hid (PlB w2 (w.heap.size + 1) (.pointer none) 0 0 0 ⟨#[]⟩ false) := (by rw [hw2, ← hs1]; exact heap_alloc_new _ _ : PlB w2 (w.heap.size + 1) (.pointer none) 0 0 0 ⟨#[]⟩ false)
  have HL2 : Hid (w2.heap[w.heap.size]? = some (.cells #[.int .i64 m, .int .i64 r, .int .i64 f] 37 (0, 0))) := (But.of_below hb2).heap R1 (fun e => by cases e)
  have HB2 : Hid (Below w.heap.size w w2) := bel_trans hb1 hb2
  have HW2 : Hid (w2 = (w.alloc (.cells #[.int .i64 m, .int .i64 r, .int .i64 f] 37)).alloc (.cells #[.pointer none, .int .i64 0, .int .i64 0, .int .i64 0, .string ⟨#[]⟩, .bool false] 49)) := (by rw [hw2, hw1] : w2 = (w.alloc (.cells #[.int .i64 m, .int .i64 r, .int .i64 f] 37)).alloc (.cells #[.pointer none, .int .i64 0, .int .i64 0, .int .i64 0, .string ⟨#[]⟩, .bool false] 49))
  have k0 : w2.cell? ⟨w.heap.size, 0, none⟩ = some (.int .i64 m) := by rw [cell_of_row w2 _ _ _ _ _ HL2.out]; rfl
  have k1 : w2.cell? ⟨w.heap.size, 1, none⟩ = some (.int .i64 r) := by rw [cell_of_row w2 _ _ _ _ _ HL2.out]; rfl
  have k2 : w2.cell? ⟨w.heap.size, 2, none⟩ = some (.int .i64 f) := by rw [cell_of_row w2 _ _ _ _ _ HL2.out]; rfl
  clear hw1 hs1 hb1 R1 hw2 hb2
  go_enter Tryz.func15, Tryz.ntmps15
  go_wp2_with fail
  rw [← HW2.out]
  refine (New_no m r f HNg.out _).mono ?_
  rintro x w3 ⟨rfl, hb3⟩
  have HR3 : Hid (PlB w3 (w.heap.size + 1) (.pointer none) 0 0 0 ⟨#[]⟩ false) := HR2.out.bel hb3
  have HL3 : Hid (w3.heap[w.heap.size]? = some (.cells #[.int .i64 m, .int .i64 r, .int .i64 f] 37 (0, 0))) := (But.of_below hb3).heap HL2.out (fun e => by cases e)
  have HB3 : Hid (Below w.heap.size w w3) := bel_trans HB2.out hb3
  clear hb3 k0 k1 k2
  have k0 : w3.cell? ⟨w.heap.size, 0, none⟩ = some (.int .i64 m) := by rw [cell_of_row w3 _ _ _ _ _ HL3.out]; rfl
  have k1 : w3.cell? ⟨w.heap.size, 1, none⟩ = some (.int .i64 r) := by rw [cell_of_row w3 _ _ _ _ _ HL3.out]; rfl
  have k2 : w3.cell? ⟨w.heap.size, 2, none⟩ = some (.int .i64 f) := by rw [cell_of_row w3 _ _ _ _ _ HL3.out]; rfl
  obtain ⟨r0, r1, r2, r3, r4, r5⟩ := HR3.out.c
  have f0 := HR3.out.f 0
  have f1 := HR3.out.f 1
  have f2 := HR3.out.f 2
  have f3 := HR3.out.f 3
  have f4 := HR3.out.f 4
  have f5 := HR3.out.f 5
  go_wp2_with fail
  refine (rLimits_no m r f HNg.out _).mono ?_
  rintro x w4 ⟨rfl, hw4⟩
  rw [hw4]
  clear hw4
  go_wp2
  refine bodyPost_ret (v := .tuple #[.agg #[.pointer none, .int .i64 m, .int .i64 r, .int .i64 f, .string ⟨#[]⟩, .bool false], .bool true]) (by simp [results, Tryz.results15, go_sem, r0, r1, r2, r3, r4, r5]) rfl ?_
  refine ⟨rfl, ?_⟩
  repeat (with_reducible refine Below.setCell ?_ (by show w.heap.size ≤ w.heap.size + 1; omega) _)
  exact HB3.out

theorem PlB.six {w : World} {b : Nat} {p p' : Value} {m r f m' r' f' : Int} {F F' : ByteArray} {g g' : Bool} (h : PlB w b p m r f F g) :
    PlB ((((((w.setCell ⟨b, 0, none⟩ p').setCell ⟨b, 1, none⟩ (.int .i64 m')).setCell ⟨b, 2, none⟩ (.int .i64 r')).setCell ⟨b, 3, none⟩ (.int .i64 f')).setCell ⟨b, 4, none⟩ (.string F')).setCell ⟨b, 5, none⟩ (.bool g')) b p' m' r' f' F' g' := by
  have h0 := heap_setCell_same w b 0 _ _ p' h
  have h1 := heap_setCell_same _ b 1 _ _ (.int .i64 m') h0
  have h2 := heap_setCell_same _ b 2 _ _ (.int .i64 r') h1
  have h3 := heap_setCell_same _ b 3 _ _ (.int .i64 f') h2
  have h4 := heap_setCell_same _ b 4 _ _ (.string F') h3
  have h5 := heap_setCell_same _ b 5 _ _ (.bool g') h4
  exact h5
theorem len_sumC : ∀ l : List Cl, l.length ≤ sumC l
  | [] => Nat.zero_le _
  | x :: l => by
    have ih := len_sumC l
    simp only [List.length_cons, sumC, List.map_cons, List.sum_cons] at ih ⊢
    omega
theorem sum_take (l : List Cl) (i : Nat) (h : i < l.length) : ((l.take (i + 1)).map (fun x => x.2.size)).sum = ((l.take i).map (fun x => x.2.size)).sum + (nthC l i).2.size := by
  unfold nthC
  rw [List.take_succ_eq_append_getElem h, List.map_append, List.sum_append, List.getD_eq_getElem?_getD, List.getElem?_eq_getElem h]
  simp
theorem sum_le (l : List Cl) : ∀ i, ((l.take i).map (fun x => x.2.size)).sum ≤ sumC l := by
  induction l with
  | nil => intro i; simp
  | cons x l ih =>
    intro i
    cases i with
    | zero => simp
    | succ i =>
      have := ih i
      simp only [List.take_succ_cons, List.map_cons, List.sum_cons, sumC] at this ⊢
      omega

set_option maxHeartbeats 4000000 in
theorem walk_ChunkFeeds (m r f : Int) (hm : (Lit.int .i64 m).wf = true) (hr : (Lit.int .i64 r).wf = true) (hf : (Lit.int .i64 f).wf = true) (v : Value) (l : List Cl) (hl : sumC l ≤ 1048576) (w : World) (R : RdO v l w) (env : Env w) :
    Calls Tryz.prog 5 #[.agg #[.int .i64 m, .int .i64 r, .int .i64 f], v] w fun e w' => e = .returned (.bool true) ∧ Below w.heap.size w w' := by
  obtain ⟨m0, m1⟩ := i64_wf hm
  obtain ⟨r0, r1⟩ := i64_wf hr
  obtain ⟨f0, f1⟩ := i64_wf hf
  have HR : Hid (RdO v l w) := R
  have HEn : Hid (Env w) := env
  obtain ⟨va, vc, rfl, hrk, _⟩ := R
  have HRk : Hid (∀ x ∈ l, -9223372036854775808 ≤ x.1 ∧ x.1 ≤ 9223372036854775807) := hrk
  have hll : l.length ≤ 1048576 := Nat.le_trans (len_sumC l) hl
  have hBA : Below w.heap.size w (w.alloc (.cells #[.int .i64 m, .int .i64 r, .int .i64 f] 37)) := (Below.refl _ w).alloc (Nat.le_refl _) _
  have HBA : Hid (Below w.heap.size w (w.alloc (.cells #[.int .i64 m, .int .i64 r, .int .i64 f] 37))) := hBA
  have HRA : Hid ((w.alloc (.cells #[.int .i64 m, .int .i64 r, .int .i64 f] 37)).heap[w.heap.size]? = some (.cells #[.int .i64 m, .int .i64 r, .int .i64 f] 37 (0, 0))) := heap_alloc_new _ _
  have HAw : Hid (Calls Tryz.prog 7 #[] (w.alloc (.cells #[.int .i64 m, .int .i64 r, .int .i64 f] 37)) fun e w' => e = .returned (.bool true) ∧ Below (w.alloc (.cells #[.int .i64 m, .int .i64 r, .int .i64 f] 37)).heap.size (w.alloc (.cells #[.int .i64 m, .int .i64 r, .int .i64 f] 37)) w') := awake_any _ (env.below hBA)
  clear hBA env hrk
  go_enter Tryz.func5, Tryz.ntmps5
  go_wp2_with fail
  refine HAw.out.mono ?_
  rintro e w1 ⟨rfl, hb1⟩
  have HB1 : Hid (Below w.heap.size w w1) := bel_trans HBA.out hb1
  have HR1 : Hid (w1.heap[w.heap.size]? = some (.cells #[.int .i64 m, .int .i64 r, .int .i64 f] 37 (0, 0))) := (But.of_below hb1).heap HRA.out (fun e => by cases e)
  clear hb1 HAw HBA HRA
  have k0 : w1.cell? ⟨w.heap.size, 0, none⟩ = some (.int .i64 m) := by rw [cell_of_row w1 w.heap.size _ _ _ _ HR1.out]; rfl
  have k1 : w1.cell? ⟨w.heap.size, 1, none⟩ = some (.int .i64 r) := by rw [cell_of_row w1 w.heap.size _ _ _ _ HR1.out]; rfl
  have k2 : w1.cell? ⟨w.heap.size, 2, none⟩ = some (.int .i64 f) := by rw [cell_of_row w1 w.heap.size _ _ _ _ HR1.out]; rfl
  by_cases hneg : m < 0 ∨ r < 0 ∨ f < 0
  · have HNg : Hid (m < 0 ∨ r < 0 ∨ f < 0) := hneg
    clear hneg
    go_wp2_with fail
    refine (begun_no m r f HNg.out _).mono ?_
    rintro x w2 ⟨rfl, hb2⟩
    have HB2 : Hid (Below w.heap.size w w2) := bel_trans HB1.out hb2
    clear hb2
    obtain ⟨w3, hw3⟩ : ∃ w3, w3 = w2.alloc (.cells #[.pointer none, .int .i64 m, .int .i64 r, .int .i64 f, .string ⟨#[]⟩, .bool false] 49) := ⟨_, rfl⟩
    have hA3 : Below w2.heap.size w2 w3 := by rw [hw3]; exact (Below.refl _ _).alloc (Nat.le_refl _) _
    have HP3 : Hid (PlB w3 w2.heap.size (.pointer none) m r f ⟨#[]⟩ false) := (by rw [hw3]; exact heap_alloc_new _ _ : PlB w3 w2.heap.size (.pointer none) m r f ⟨#[]⟩ false)
    have HB3 : Hid (Below w.heap.size w w3) := bel_trans HB2.out hA3
    have HW3 : Hid (w3 = w2.alloc (.cells #[.pointer none, .int .i64 m, .int .i64 r, .int .i64 f, .string ⟨#[]⟩, .bool false] 49)) := hw3
    have hs2 := HB2.out.size
    clear hw3 hA3 k0 k1 k2
    go_wp2
    rw [← HW3.out]
    go_loopw [20] (fun iv wr => ∃ i : Nat, i ≤ l.length ∧ iv = .int .i64 i ∧ Hid (PlB wr w2.heap.size (.pointer none) m r f ⟨#[]⟩ false) ∧ Hid (Below w.heap.size w wr)) (fun iv _ => l.length - (intOf iv).toNat)
    case atStart => exact ⟨0, Nat.zero_le _, rfl, HP3, HB3⟩
    case round =>
      obtain ⟨i, hi, rfl, hpb, hbl⟩ := hrel
      by_cases hlt : i < l.length
      · obtain ⟨a', c', e', _, hcs⟩ := HR.out.below hbl.out
        injection e' with e1 _ e2
        subst e1 e2
        rcases hcs with h | ⟨gg, oo, rfl, hlc, hcell⟩
        · rw [h] at hlt; simp at hlt
        obtain ⟨q0, q1⟩ := hcell i hlt
        have HKr : Hid (-9223372036854775808 ≤ (nthC l i).1 ∧ (nthC l i).1 ≤ 9223372036854775807) := HRk.out _ (by unfold nthC; rw [List.getD_eq_getElem?_getD, List.getElem?_eq_getElem hlt]; exact List.getElem_mem hlt)
        generalize nthC l i = o at *
        obtain ⟨k, S⟩ := o
        simp only at q0 q1 HKr
        clear hcell
        obtain ⟨p0, p1, p2, p3, p4, p5⟩ := hpb.out.c
        have pf0 := hpb.out.f 0
        have hpl := hpb.out.lt
        obtain ⟨wa, hwa⟩ : ∃ wa, wa = wr.alloc (.cells #[.int .i64 k, .string S] 53) := ⟨_, rfl⟩
        have hAa : Below wr.heap.size wr wa := by rw [hwa]; exact (Below.refl _ _).alloc (Nat.le_refl _) _
        have HPa : Hid (PlB wa w2.heap.size (.pointer none) m r f ⟨#[]⟩ false) := hpb.out.bel hAa
        have HBa : Hid (Below w.heap.size w wa) := bel_up hbl.out hAa (by have := hbl.out.size; omega)
        have HWa : Hid (wa = wr.alloc (.cells #[.int .i64 k, .string S] 53)) := hwa
        clear hwa hAa
        go_wp2_with fail
        rw [← HWa.out]
        refine (step_nil m r f ⟨#[]⟩ false k HKr.out.1 HKr.out.2 S _).mono ?_
        rintro x w6 ⟨rfl, hb6⟩
        have HP6 : Hid (PlB w6 w2.heap.size (.pointer none) m r f ⟨#[]⟩ false) := HPa.out.bel hb6
        have HB6 : Hid (Below w.heap.size w w6) := bel_up HBa.out hb6 (by have := HBa.out.size; omega)
        clear hb6 p0 p1 p2 p3 p4 p5 q0 q1 pf0
        obtain ⟨p0, p1, p2, p3, p4, p5⟩ := HP6.out.c
        have g0 := HP6.out.f 0
        have g1 := HP6.out.f 1
        have g2 := HP6.out.f 2
        have g3 := HP6.out.f 3
        have g4 := HP6.out.f 4
        have g5 := HP6.out.f 5
        go_wp2
        go_roundw
        case rel =>
          refine ⟨i + 1, by omega, by go_num, ?_, ?_⟩
          · exact PlB.six HP6.out
          · refine (?_ : Below w.heap.size w _)
            repeat (with_reducible refine Below.setCell ?_ (by show w.heap.size ≤ w2.heap.size; omega) _)
            exact HB6.out
        case measure => simp [intOf]; omega
      · go_wp2
        go_ret
        exact ⟨rfl, hbl.out⟩
  · have hm0 : 0 ≤ m := by omega
    have hr0 : 0 ≤ r := by omega
    have hf0 : 0 ≤ f := by omega
    have HOk : Hid (Ok (new m r f) 0) := Ok.new m r f ⟨hm0, m1⟩ ⟨hr0, r1⟩ ⟨hf0, f1⟩
    clear hneg
    go_wp2_with fail
    refine (begun_ok m r f hm0 hr0 hf0 _).mono ?_
    rintro x w2 ⟨D, rfl, hd2, hDl, hb2⟩
    have HB2 : Hid (Below w.heap.size w w2) := bel_trans HB1.out hb2
    have HD2 : Hid (Dec w2 D (new m r f) [D]) := hd2
    have hs1 := HB1.out.size
    have HDw : Hid (w.heap.size ≤ D) := Nat.le_trans hs1 hDl
    have hDl2 : D < w2.heap.size := HD2.out.lt D (by simp)
    clear hb2 hd2 hDl
    obtain ⟨w3, hw3⟩ : ∃ w3, w3 = w2.alloc (.cells #[.pointer (some ⟨D, 0, none⟩), .int .i64 m, .int .i64 r, .int .i64 f, .string ⟨#[]⟩, .bool false] 49) := ⟨_, rfl⟩
    have hA3 : Below w2.heap.size w2 w3 := by rw [hw3]; exact (Below.refl _ _).alloc (Nat.le_refl _) _
    have HP3 : Hid (PlB w3 w2.heap.size (.pointer (some ⟨D, 0, none⟩)) m r f ⟨#[]⟩ false) := (by rw [hw3]; exact heap_alloc_new _ _ : PlB w3 w2.heap.size (.pointer (some ⟨D, 0, none⟩)) m r f ⟨#[]⟩ false)
    have HB3 : Hid (Below w.heap.size w w3) := bel_trans HB2.out hA3
    have HD3 : Hid (Play w3 D m r f ⟨#[]⟩ false (new m r f) [D]) := (⟨HD2.out.below hA3, Fed.start HOk.out, rfl⟩ : Play w3 D m r f ⟨#[]⟩ false (new m r f) [D])
    have HW3 : Hid (w3 = w2.alloc (.cells #[.pointer (some ⟨D, 0, none⟩), .int .i64 m, .int .i64 r, .int .i64 f, .string ⟨#[]⟩, .bool false] 49)) := hw3
    have hs2 := HB2.out.size
    clear hw3 hA3 k0 k1 k2
    go_wp2
    rw [← HW3.out]
    go_loopw [20] (fun iv wr => ∃ (i : Nat) (F : ByteArray) (g : Bool) (s : DS) (bs : List Nat), i ≤ l.length ∧ iv = .int .i64 i ∧ F.size ≤ ((l.take i).map (fun x => x.2.size)).sum ∧ Hid (PlB wr w2.heap.size (.pointer (some ⟨D, 0, none⟩)) m r f F g) ∧ Hid (Play wr D m r f F g s bs) ∧ Hid (w2.heap.size ∉ bs ∧ ∀ x, x ∈ bs → w.heap.size ≤ x) ∧ Hid (Below w.heap.size w wr)) (fun iv _ => l.length - (intOf iv).toNat)
    case atStart => exact ⟨0, ⟨#[]⟩, false, new m r f, [D], Nat.zero_le _, rfl, Nat.le_refl _, HP3, HD3, (⟨by simp; omega, fun x hx => by simp at hx; subst hx; exact HDw.out⟩ : w2.heap.size ∉ [D] ∧ ∀ x, x ∈ [D] → w.heap.size ≤ x), HB3⟩
    case round =>
      obtain ⟨i, F, g, s, bs, hi, rfl, hFs, hpb, hply, hnb, hbl⟩ := hrel
      by_cases hlt : i < l.length
      · obtain ⟨a', c', e', _, hcs⟩ := HR.out.below hbl.out
        injection e' with e1 _ e2
        subst e1 e2
        rcases hcs with h | ⟨gg, oo, rfl, hlc, hcell⟩
        · rw [h] at hlt; simp at hlt
        obtain ⟨q0, q1⟩ := hcell i hlt
        have HKr : Hid (-9223372036854775808 ≤ (nthC l i).1 ∧ (nthC l i).1 ≤ 9223372036854775807) := HRk.out _ (by unfold nthC; rw [List.getD_eq_getElem?_getD, List.getElem?_eq_getElem hlt]; exact List.getElem_mem hlt)
        have hsum := sum_take l i hlt
        have hsum2 := sum_le l (i + 1)
        have HSm : Hid (((l.take (i + 1)).map (fun x => x.2.size)).sum = ((l.take i).map (fun x => x.2.size)).sum + (nthC l i).2.size) := hsum
        have hFS : F.size + (nthC l i).2.size ≤ 1048576 := by omega
        have HFt : Hid (∀ n, n ≤ F.size + (nthC l i).2.size → n ≤ ((l.take (i + 1)).map (fun x => x.2.size)).sum) := fun n hn => by rw [hsum]; omega
        clear hsum hsum2 HSm hFs
        generalize nthC l i = o at *
        obtain ⟨k, S⟩ := o
        simp only at q0 q1 HKr hFS HFt
        clear hcell
        obtain ⟨p0, p1, p2, p3, p4, p5⟩ := hpb.out.c
        have hpl := hpb.out.lt
        obtain ⟨wa, hwa⟩ : ∃ wa, wa = wr.alloc (.cells #[.int .i64 k, .string S] 53) := ⟨_, rfl⟩
        have hAa : Below wr.heap.size wr wa := by rw [hwa]; exact (Below.refl _ _).alloc (Nat.le_refl _) _
        have HPa : Hid (PlB wa w2.heap.size (.pointer (some ⟨D, 0, none⟩)) m r f F g) := hpb.out.bel hAa
        have HBa : Hid (Below w.heap.size w wa) := bel_up hbl.out hAa (by have := hbl.out.size; omega)
        have HYa : Hid (Play wa D m r f F g s bs) := (⟨hply.out.dec.below hAa, hply.out.fed, hply.out.gone⟩ : Play wa D m r f F g s bs)
        have HBs : Hid (Base w wa bs) := (⟨HEn.out, HBa.out, hnb.out.2⟩ : Base w wa bs)
        have HWa : Hid (wa = wr.alloc (.cells #[.int .i64 k, .string S] 53)) := hwa
        clear hwa hAa
        go_wp2_with fail
        rw [← HWa.out]
        refine (step_any HBs.out HYa.out hm0 m1 hr0 r1 hf0 f1 k HKr.out.1 HKr.out.2 S hFS).mono ?_
        rintro x w6 ⟨F', g', s', bs', rfl, hy6, hg6, hF6⟩
        have hF6' := HFt.out _ hF6
        have hnb6 : w2.heap.size ∉ bs' ∧ ∀ x, x ∈ bs' → w.heap.size ≤ x := ⟨fun e => by
          rcases hg6.sub _ e with h | h
          · exact hnb.out.1 h
          · have := HPa.out.lt; omega, hg6.new HBa.out.size hnb.out.2⟩
        have HN6 : Hid (w2.heap.size ∉ bs' ∧ ∀ x, x ∈ bs' → w.heap.size ≤ x) := hnb6
        have HP6 : Hid (PlB w6 w2.heap.size (.pointer (some ⟨D, 0, none⟩)) m r f F g) := HPa.out.but hg6.but hnb.out.1
        have HB6 : Hid (Below w.heap.size w w6) := hg6.bel hnb.out.2 HBa.out
        have HY6 : Hid (Play w6 D m r f F' g' s' bs') := hy6
        clear hy6 hg6 hF6 hnb6 p0 p1 p2 p3 p4 p5 q0 q1
        obtain ⟨p0, p1, p2, p3, p4, p5⟩ := HP6.out.c
        have g0 := HP6.out.f 0
        have g1 := HP6.out.f 1
        have g2 := HP6.out.f 2
        have g3 := HP6.out.f 3
        have g4 := HP6.out.f 4
        have g5 := HP6.out.f 5
        go_wp2
        go_roundw
        case rel =>
          refine ⟨i + 1, F', g', s', bs', by omega, by go_num, hF6', ?_, ?_, HN6, ?_⟩
          · exact PlB.six HP6.out
          · refine (⟨?_, HY6.out.fed, HY6.out.gone⟩ : Play _ D m r f F' g' s' bs')
            repeat (with_reducible refine Dec.far ?_ HN6.out.1 _)
            exact HY6.out.dec
          · refine (?_ : Below w.heap.size w _)
            repeat (with_reducible refine Below.setCell ?_ (by show w.heap.size ≤ w2.heap.size; omega) _)
            exact HB6.out
        case measure => simp [intOf]; omega
      · go_wp2
        go_ret
        exact ⟨rfl, hbl.out⟩

end Ck
end Go.Proofs.YtdbnlpnnfnodnaaGreatDoor

/-
  Two decoders that are played; the law ChunkTwo.
-/
set_option linter.unusedVariables false
set_option linter.unusedSimpArgs false
set_option maxRecDepth 100000
namespace Go.Proofs.YtdbnlpnnfnodnaaGreatDoor
open Go.RowKit Go.Shelf
namespace Ck
open Oc Tg _root_.Go.Proofs.YtdbnlpnnfnodnaaGreatDoor.Fd

/-- One that is played, with a decoder or without. -/
def PX (w : World) (o : Option Addr) (m r f : Int) (F : ByteArray) (g : Bool) (bs : List Nat) : Prop :=
  (o = none ∧ bs = []) ∨ ∃ D s, o = some ⟨D, 0, none⟩ ∧ Play w D m r f F g s bs ∧ 0 ≤ m ∧ 0 ≤ r ∧ 0 ≤ f
theorem PX.lt {w : World} {o : Option Addr} {m r f : Int} {F : ByteArray} {g : Bool} {bs : List Nat} (h : PX w o m r f F g bs) : ∀ x, x ∈ bs → x < w.heap.size := by
  rcases h with ⟨_, rfl⟩ | ⟨D, s, _, hp, _⟩
  · intro x hx; cases hx
  · exact hp.dec.lt
theorem PX.but {w w' : World} {cs : List Nat} {o : Option Addr} {m r f : Int} {F : ByteArray} {g : Bool} {bs : List Nat} (h : PX w o m r f F g bs) (hb : But cs w w') (hn : ∀ x, x ∈ bs → x ∉ cs) : PX w' o m r f F g bs := by
  rcases h with h | ⟨D, s, e, hp, hq⟩
  · exact .inl h
  · exact .inr ⟨D, s, e, ⟨hp.dec.but hb hn, hp.fed, hp.gone⟩, hq⟩
theorem PX.bel {w w' : World} {o : Option Addr} {m r f : Int} {F : ByteArray} {g : Bool} {bs : List Nat} (h : PX w o m r f F g bs) (hb : Below w.heap.size w w') : PX w' o m r f F g bs := h.but (But.of_below hb) (fun _ _ e => by cases e)
theorem PX.far {w : World} {o : Option Addr} {m r f : Int} {F : ByteArray} {g : Bool} {bs : List Nat} (h : PX w o m r f F g bs) {p : Addr} (hp : p.block ∉ bs) (v : Value) : PX (w.setCell p v) o m r f F g bs := by
  rcases h with h | ⟨D, s, e, hq, hr⟩
  · exact .inl h
  · exact .inr ⟨D, s, e, ⟨hq.dec.far hp v, hq.fed, hq.gone⟩, hr⟩
def StepX (w : World) (o : Option Addr) (m r f : Int) (F S : ByteArray) (bs : List Nat) (x : Ending) (w' : World) : Prop :=
  ∃ (F' : ByteArray) (g' : Bool) (bs' : List Nat), x = .returned (.tuple #[.agg #[.pointer o, .int .i64 m, .int .i64 r, .int .i64 f, .string F', .bool g'], .bool true]) ∧ PX w' o m r f F' g' bs' ∧ Goes bs w bs' w' ∧ F'.size ≤ F.size + S.size
theorem step_x {w0 w : World} {o : Option Addr} {m r f : Int} {F : ByteArray} {g : Bool} {bs : List Nat} (env : Env w0) (hb : Below w0.heap.size w0 w) (hn : ∀ x, x ∈ bs → w0.heap.size ≤ x) (hx : PX w o m r f F g bs) (hm1 : m ≤ 9223372036854775807) (hr1 : r ≤ 9223372036854775807) (hf1 : f ≤ 9223372036854775807) (k : Int) (hk0 : -9223372036854775808 ≤ k) (hk1 : k ≤ 9223372036854775807) (S : ByteArray) (hsF : F.size + S.size ≤ 1048576) :
    Calls Tryz.prog 16 #[.agg #[.pointer o, .int .i64 m, .int .i64 r, .int .i64 f, .string F, .bool g], .agg #[.int .i64 k, .string S]] w (StepX w o m r f F S bs) := by
  rcases hx with ⟨rfl, rfl⟩ | ⟨D, s, rfl, hp, h0, h1, h2⟩
  · refine (step_nil m r f F g k hk0 hk1 S w).mono ?_
    rintro x w' ⟨rfl, hb'⟩
    exact ⟨F, g, [], rfl, .inl ⟨rfl, rfl⟩, Goes.below hb', Nat.le_add_right _ _⟩
  · refine (step_any (w0 := w0) ⟨env, hb, hn⟩ hp h0 hm1 h1 hr1 h2 hf1 k hk0 hk1 S hsF).mono ?_
    rintro x w' ⟨F', g', s', bs', rfl, hy, hg, hF⟩
    exact ⟨F', g', bs', rfl, .inr ⟨D, s', rfl, hy, h0, h1, h2⟩, hg, hF⟩
theorem begun_x (m r f : Int) (hm1 : m ≤ 9223372036854775807) (hr1 : r ≤ 9223372036854775807) (hf1 : f ≤ 9223372036854775807) (w : World) : Calls Tryz.prog 15 #[.agg #[.int .i64 m, .int .i64 r, .int .i64 f]] w fun e w' => ∃ (o : Option Addr) (bs : List Nat), e = .returned (.tuple #[.agg #[.pointer o, .int .i64 m, .int .i64 r, .int .i64 f, .string ⟨#[]⟩, .bool false], .bool true]) ∧ PX w' o m r f ⟨#[]⟩ false bs ∧ (∀ x, x ∈ bs → w.heap.size ≤ x) ∧ Below w.heap.size w w' := by
  by_cases hneg : m < 0 ∨ r < 0 ∨ f < 0
  · refine (begun_no m r f hneg w).mono ?_
    rintro x w' ⟨rfl, hb⟩
    exact ⟨none, [], rfl, .inl ⟨rfl, rfl⟩, (fun x hx => by cases hx), hb⟩
  · refine (begun_ok m r f (by omega) (by omega) (by omega) w).mono ?_
    rintro x w' ⟨D, rfl, hd, hD, hb⟩
    exact ⟨some ⟨D, 0, none⟩, [D], rfl, .inr ⟨D, new m r f, rfl, ⟨hd, Fed.start (Ok.new m r f ⟨by omega, hm1⟩ ⟨by omega, hr1⟩ ⟨by omega, hf1⟩), rfl⟩, by omega, by omega, by omega⟩, (fun x hx => by simp at hx; subst hx; exact hD), hb⟩

/-- The blocks of two that are played, apart from each other and from b, c. -/
structure Apart (w : World) (b c : Nat) (cs ds : List Nat) : Prop where
  dis : ∀ x, x ∈ cs → x ∉ ds
  n1 : b ∉ cs
  n2 : c ∉ cs
  n3 : b ∉ ds
  n4 : c ∉ ds
  l1 : ∀ x, x ∈ cs → w.heap.size ≤ x
  l2 : ∀ x, x ∈ ds → w.heap.size ≤ x
theorem Apart.left {w wa w6 : World} {b c : Nat} {cs ds cs' : List Nat} (h : Apart w b c cs ds) (hg : Goes cs wa cs' w6) (hs : w.heap.size ≤ wa.heap.size) (hd : ∀ x, x ∈ ds → x < wa.heap.size) (hb : b < wa.heap.size) (hc : c < wa.heap.size) : Apart w b c cs' ds := by
  refine ⟨fun x hx hy => ?_, fun e => ?_, fun e => ?_, h.n3, h.n4, hg.new hs h.l1, h.l2⟩
  · rcases hg.sub x hx with e | e
    · exact h.dis x e hy
    · have := hd x hy; omega
  · rcases hg.sub _ e with e | e
    · exact h.n1 e
    · omega
  · rcases hg.sub _ e with e | e
    · exact h.n2 e
    · omega
theorem Apart.right {w wa w6 : World} {b c : Nat} {cs ds ds' : List Nat} (h : Apart w b c cs ds) (hg : Goes ds wa ds' w6) (hs : w.heap.size ≤ wa.heap.size) (hd : ∀ x, x ∈ cs → x < wa.heap.size) (hb : b < wa.heap.size) (hc : c < wa.heap.size) : Apart w b c cs ds' := by
  refine ⟨fun x hx hy => ?_, h.n1, h.n2, fun e => ?_, fun e => ?_, h.l1, hg.new hs h.l2⟩
  · rcases hg.sub x hy with e | e
    · exact h.dis x hx e
    · have := hd x hx; omega
  · rcases hg.sub _ e with e | e
    · exact h.n3 e
    · omega
  · rcases hg.sub _ e with e | e
    · exact h.n4 e
    · omega

set_option maxHeartbeats 4000000 in
theorem walk_ChunkTwo (m r f : Int) (hm : (Lit.int .i64 m).wf = true) (hr : (Lit.int .i64 r).wf = true) (hf : (Lit.int .i64 f).wf = true) (m2 r2 f2 : Int) (hm2 : (Lit.int .i64 m2).wf = true) (hr2 : (Lit.int .i64 r2).wf = true) (hf2 : (Lit.int .i64 f2).wf = true) (v : Value) (l : List Cl) (hl : sumC l ≤ 1048576) (w : World) (R : RdO v l w) (env : Env w) :
    Calls Tryz.prog 6 #[.agg #[.int .i64 m, .int .i64 r, .int .i64 f], .agg #[.int .i64 m2, .int .i64 r2, .int .i64 f2], v] w fun e w' => e = .returned (.bool true) ∧ Below w.heap.size w w' := by
  obtain ⟨m0, m1⟩ := i64_wf hm
  obtain ⟨r0, r1⟩ := i64_wf hr
  obtain ⟨f0, f1⟩ := i64_wf hf
  obtain ⟨m20, m21⟩ := i64_wf hm2
  obtain ⟨r20, r21⟩ := i64_wf hr2
  obtain ⟨f20, f21⟩ := i64_wf hf2
  have HR : Hid (RdO v l w) := R
  have HEn : Hid (Env w) := env
  obtain ⟨va, vc, rfl, hrk, _⟩ := R
  have HRk : Hid (∀ x ∈ l, -9223372036854775808 ≤ x.1 ∧ x.1 ≤ 9223372036854775807) := hrk
  have hll : l.length ≤ 1048576 := Nat.le_trans (len_sumC l) hl
  obtain ⟨wa, hwa⟩ : ∃ wa, wa = w.alloc (.cells #[.int .i64 m, .int .i64 r, .int .i64 f] 37) := ⟨_, rfl⟩
  have hsa : wa.heap.size = w.heap.size + 1 := by rw [hwa]; simp
  have hba : Below w.heap.size w wa := by rw [hwa]; exact (Below.refl _ w).alloc (Nat.le_refl _) _
  have Ra : wa.heap[w.heap.size]? = some (.cells #[.int .i64 m, .int .i64 r, .int .i64 f] 37 (0, 0)) := by rw [hwa]; exact heap_alloc_new _ _
  obtain ⟨wb, hwb⟩ : ∃ wb, wb = wa.alloc (.cells #[.int .i64 m2, .int .i64 r2, .int .i64 f2] 37) := ⟨_, rfl⟩
  have hbb : Below wa.heap.size wa wb := by rw [hwb]; exact (Below.refl _ _).alloc (Nat.le_refl _) _
  have HLb : Hid (wb.heap[w.heap.size]? = some (.cells #[.int .i64 m, .int .i64 r, .int .i64 f] 37 (0, 0))) := (But.of_below hbb).heap Ra (fun e => by cases e)
  have HMb : Hid (wb.heap[w.heap.size + 1]? = some (.cells #[.int .i64 m2, .int .i64 r2, .int .i64 f2] 37 (0, 0))) := (by rw [hwb, ← hsa]; exact heap_alloc_new _ _ : wb.heap[w.heap.size + 1]? = some (.cells #[.int .i64 m2, .int .i64 r2, .int .i64 f2] 37 (0, 0)))
  have HBb : Hid (Below w.heap.size w wb) := bel_trans hba hbb
  have HWb : Hid (wb = (w.alloc (.cells #[.int .i64 m, .int .i64 r, .int .i64 f] 37)).alloc (.cells #[.int .i64 m2, .int .i64 r2, .int .i64 f2] 37)) := (by rw [hwb, hwa] : wb = (w.alloc (.cells #[.int .i64 m, .int .i64 r, .int .i64 f] 37)).alloc (.cells #[.int .i64 m2, .int .i64 r2, .int .i64 f2] 37))
  clear hwa hsa hba Ra hwb hbb env hrk
  go_enter Tryz.func6, Tryz.ntmps6
  go_wp2_with fail
  rw [← HWb.out]
  refine (awake_any wb (HEn.out.below HBb.out)).mono ?_
  rintro e w1 ⟨rfl, hb1⟩
  have HB1 : Hid (Below w.heap.size w w1) := bel_trans HBb.out hb1
  have HL1 : Hid (w1.heap[w.heap.size]? = some (.cells #[.int .i64 m, .int .i64 r, .int .i64 f] 37 (0, 0))) := (But.of_below hb1).heap HLb.out (fun e => by cases e)
  have HM1 : Hid (w1.heap[w.heap.size + 1]? = some (.cells #[.int .i64 m2, .int .i64 r2, .int .i64 f2] 37 (0, 0))) := (But.of_below hb1).heap HMb.out (fun e => by cases e)
  clear hb1
  have k0 : w1.cell? ⟨w.heap.size, 0, none⟩ = some (.int .i64 m) := by rw [cell_of_row w1 w.heap.size _ _ _ _ HL1.out]; rfl
  have k1 : w1.cell? ⟨w.heap.size, 1, none⟩ = some (.int .i64 r) := by rw [cell_of_row w1 w.heap.size _ _ _ _ HL1.out]; rfl
  have k2 : w1.cell? ⟨w.heap.size, 2, none⟩ = some (.int .i64 f) := by rw [cell_of_row w1 w.heap.size _ _ _ _ HL1.out]; rfl
  go_wp2_with fail
  refine (begun_x m r f m1 r1 f1 _).mono ?_
  rintro x w2 ⟨o, bs, rfl, hx2, hn2, hb2⟩
  have HB2 : Hid (Below w.heap.size w w2) := bel_trans HB1.out hb2
  have hs1 := HB1.out.size
  have HX2 : Hid (PX w2 o m r f ⟨#[]⟩ false bs) := hx2
  have HN2 : Hid (∀ x, x ∈ bs → w.heap.size ≤ x) := fun x hx => Nat.le_trans hs1 (hn2 x hx)
  have HM2 : Hid (w2.heap[w.heap.size + 1]? = some (.cells #[.int .i64 m2, .int .i64 r2, .int .i64 f2] 37 (0, 0))) := (But.of_below hb2).heap HM1.out (fun e => by cases e)
  have hlm : w.heap.size + 1 < w2.heap.size := (Array.getElem?_eq_some_iff.1 HM2.out).1
  clear hb2 hx2 hn2 k0 k1 k2
  have k0 : w2.cell? ⟨w.heap.size + 1, 0, none⟩ = some (.int .i64 m2) := by rw [cell_of_row w2 (w.heap.size + 1) _ _ _ _ HM2.out]; rfl
  have k1 : w2.cell? ⟨w.heap.size + 1, 1, none⟩ = some (.int .i64 r2) := by rw [cell_of_row w2 (w.heap.size + 1) _ _ _ _ HM2.out]; rfl
  have k2 : w2.cell? ⟨w.heap.size + 1, 2, none⟩ = some (.int .i64 f2) := by rw [cell_of_row w2 (w.heap.size + 1) _ _ _ _ HM2.out]; rfl
  obtain ⟨w3, hw3⟩ : ∃ w3, w3 = w2.alloc (.cells #[.pointer o, .int .i64 m, .int .i64 r, .int .i64 f, .string ⟨#[]⟩, .bool false] 49) := ⟨_, rfl⟩
  have hA3 : Below w2.heap.size w2 w3 := by rw [hw3]; exact (Below.refl _ _).alloc (Nat.le_refl _) _
  have HP3 : Hid (PlB w3 w2.heap.size (.pointer o) m r f ⟨#[]⟩ false) := (by rw [hw3]; exact heap_alloc_new _ _ : PlB w3 w2.heap.size (.pointer o) m r f ⟨#[]⟩ false)
  have HB3 : Hid (Below w.heap.size w w3) := bel_trans HB2.out hA3
  have HX3 : Hid (PX w3 o m r f ⟨#[]⟩ false bs) := HX2.out.bel hA3
  have HW3 : Hid (w3 = w2.alloc (.cells #[.pointer o, .int .i64 m, .int .i64 r, .int .i64 f, .string ⟨#[]⟩, .bool false] 49)) := hw3
  have HLb3 : Hid (∀ x, x ∈ bs → x < w2.heap.size) := HX2.out.lt
  clear hw3 hA3
  go_wp2_with fail
  rw [← HW3.out]
  refine (begun_x m2 r2 f2 m21 r21 f21 _).mono ?_
  rintro x w4 ⟨o2, bs2, rfl, hx4, hn4, hb4⟩
  have HB4 : Hid (Below w.heap.size w w4) := bel_trans HB3.out hb4
  have HP4 : Hid (PlB w4 w2.heap.size (.pointer o) m r f ⟨#[]⟩ false) := HP3.out.bel hb4
  have HX4 : Hid (PX w4 o m r f ⟨#[]⟩ false bs) := HX3.out.bel hb4
  have HY4 : Hid (PX w4 o2 m2 r2 f2 ⟨#[]⟩ false bs2) := hx4
  have hs3 := HP3.out.lt
  have HN4 : Hid (∀ x, x ∈ bs2 → w3.heap.size ≤ x) := hn4
  have HLb4 : Hid (∀ x, x ∈ bs2 → x < w4.heap.size) := hx4.lt
  have hs24 := HP4.out.lt
  clear hx4 hn4 hb4 k0 k1 k2
  obtain ⟨w5, hw5⟩ : ∃ w5, w5 = w4.alloc (.cells #[.pointer o2, .int .i64 m2, .int .i64 r2, .int .i64 f2, .string ⟨#[]⟩, .bool false] 49) := ⟨_, rfl⟩
  have hA5 : Below w4.heap.size w4 w5 := by rw [hw5]; exact (Below.refl _ _).alloc (Nat.le_refl _) _
  have HP5 : Hid (PlB w5 w2.heap.size (.pointer o) m r f ⟨#[]⟩ false) := HP4.out.bel hA5
  have HQ5 : Hid (PlB w5 w4.heap.size (.pointer o2) m2 r2 f2 ⟨#[]⟩ false) := (by rw [hw5]; exact heap_alloc_new _ _ : PlB w5 w4.heap.size (.pointer o2) m2 r2 f2 ⟨#[]⟩ false)
  have HX5 : Hid (PX w5 o m r f ⟨#[]⟩ false bs) := HX4.out.bel hA5
  have HY5 : Hid (PX w5 o2 m2 r2 f2 ⟨#[]⟩ false bs2) := HY4.out.bel hA5
  have HB5 : Hid (Below w.heap.size w w5) := bel_trans HB4.out hA5
  have HW5 : Hid (w5 = w4.alloc (.cells #[.pointer o2, .int .i64 m2, .int .i64 r2, .int .i64 f2, .string ⟨#[]⟩, .bool false] 49)) := hw5
  have hs2 := HB2.out.size
  clear hw5 hA5
  go_wp2
  rw [← HW5.out]
  go_loopw [33] (fun iv wr => ∃ (i : Nat) (F : ByteArray) (g : Bool) (cs : List Nat) (F2 : ByteArray) (g2 : Bool) (cs2 : List Nat), i ≤ l.length ∧ iv = .int .i64 i ∧ F.size + F2.size ≤ ((l.take i).map (fun x => x.2.size)).sum ∧ Hid (PlB wr w2.heap.size (.pointer o) m r f F g) ∧ Hid (PlB wr w4.heap.size (.pointer o2) m2 r2 f2 F2 g2) ∧ Hid (PX wr o m r f F g cs) ∧ Hid (PX wr o2 m2 r2 f2 F2 g2 cs2) ∧ Hid (Apart w w2.heap.size w4.heap.size cs cs2) ∧ Hid (Below w.heap.size w wr)) (fun iv _ => l.length - (intOf iv).toNat)
  case atStart =>
    refine ⟨0, ⟨#[]⟩, false, bs, ⟨#[]⟩, false, bs2, Nat.zero_le _, rfl, Nat.le_refl _, HP5, HQ5, HX5, HY5, ?_, HB5⟩
    have h1 := HLb3.out
    have h2 := HN4.out
    have h3 := HLb4.out
    exact (⟨fun x hx hy => by have := h1 x hx; have := h2 x hy; omega, fun e => by have := h1 _ e; omega, fun e => by have := h1 _ e; omega, fun e => by have := h2 _ e; omega, fun e => by have := h3 _ e; omega, HN2.out, fun x hx => by have := h2 x hx; omega⟩ : Apart w w2.heap.size w4.heap.size bs bs2)
  case round =>
    obtain ⟨i, F, g, cs, F2, g2, cs2, hi, rfl, hFs, hpb, hqb, hpx, hqx, hap, hbl⟩ := hrel
    by_cases hlt : i < l.length
    · obtain ⟨a', c', e', _, hcs⟩ := HR.out.below hbl.out
      injection e' with e1 _ e2
      subst e1 e2
      rcases hcs with h | ⟨gg, oo, rfl, hlc, hcell⟩
      · rw [h] at hlt; simp at hlt
      obtain ⟨q0, q1⟩ := hcell i hlt
      have HKr : Hid (-9223372036854775808 ≤ (nthC l i).1 ∧ (nthC l i).1 ≤ 9223372036854775807) := HRk.out _ (by unfold nthC; rw [List.getD_eq_getElem?_getD, List.getElem?_eq_getElem hlt]; exact List.getElem_mem hlt)
      have hsum := sum_take l i hlt
      have hsum2 := sum_le l (i + 1)
      have hFS : F.size + F2.size + (nthC l i).2.size ≤ 1048576 := by omega
      have HFt : Hid (∀ n, n ≤ F.size + F2.size + (nthC l i).2.size → n ≤ ((l.take (i + 1)).map (fun x => x.2.size)).sum) := fun n hn => by rw [hsum]; omega
      clear hsum hsum2 hFs
      generalize nthC l i = oc at *
      obtain ⟨k, S⟩ := oc
      simp only at q0 q1 HKr hFS HFt
      clear hcell
      have hpl := hpb.out.lt
      have hql := hqb.out.lt
      obtain ⟨wa, hwa⟩ : ∃ wa, wa = wr.alloc (.cells #[.int .i64 k, .string S] 53) := ⟨_, rfl⟩
      have hAa : Below wr.heap.size wr wa := by rw [hwa]; exact (Below.refl _ _).alloc (Nat.le_refl _) _
      have HPa : Hid (PlB wa w2.heap.size (.pointer o) m r f F g) := hpb.out.bel hAa
      have HQa : Hid (PlB wa w4.heap.size (.pointer o2) m2 r2 f2 F2 g2) := hqb.out.bel hAa
      have HXa : Hid (PX wa o m r f F g cs) := hpx.out.bel hAa
      have HYa : Hid (PX wa o2 m2 r2 f2 F2 g2 cs2) := hqx.out.bel hAa
      have HBa : Hid (Below w.heap.size w wa) := bel_up hbl.out hAa (by have := hbl.out.size; omega)
      have HWa : Hid (wa = wr.alloc (.cells #[.int .i64 k, .string S] 53)) := hwa
      clear hwa hAa
      by_cases hev : (i : Int) % 2 = 0
      · have hpar : ((i : Int) % 2 == 0) = true := by simp [hev]
        clear hev
        obtain ⟨p0, p1, p2, p3, p4, p5⟩ := hpb.out.c
        go_wp2_with fail
        rw [← HWa.out]
        refine (step_x HEn.out HBa.out hap.out.l1 HXa.out m1 r1 f1 k HKr.out.1 HKr.out.2 S (by omega)).mono ?_
        rintro x w6 ⟨F', g', bs', rfl, hy6, hg6, hF6⟩
        have HAp : Hid (Apart w w2.heap.size w4.heap.size bs' cs2) := hap.out.left hg6 HBa.out.size HYa.out.lt HPa.out.lt HQa.out.lt
        have HX6 : Hid (PX w6 o m r f F' g' bs') := hy6
        have HY6 : Hid (PX w6 o2 m2 r2 f2 F2 g2 cs2) := HYa.out.but hg6.but (fun x hx e => hap.out.dis x e hx)
        have HP6 : Hid (PlB w6 w2.heap.size (.pointer o) m r f F g) := HPa.out.but hg6.but hap.out.n1
        have HQ6 : Hid (PlB w6 w4.heap.size (.pointer o2) m2 r2 f2 F2 g2) := HQa.out.but hg6.but hap.out.n2
        have HB6 : Hid (Below w.heap.size w w6) := hg6.bel hap.out.l1 HBa.out
        have hF7 := HFt.out (F'.size + F2.size) (by omega)
        clear hy6 hg6 hF6 p0 p1 p2 p3 p4 p5 q0 q1
        obtain ⟨p0, p1, p2, p3, p4, p5⟩ := HP6.out.c
        have y0 := HP6.out.f 0
        have y1 := HP6.out.f 1
        have y2 := HP6.out.f 2
        have y3 := HP6.out.f 3
        have y4 := HP6.out.f 4
        have y5 := HP6.out.f 5
        go_wp2
        go_roundw
        case rel =>
          refine ⟨i + 1, F', g', bs', F2, g2, cs2, by omega, by go_num, hF7, ?_, ?_, ?_, ?_, HAp, ?_⟩
          · exact PlB.six HP6.out
          · refine (?_ : PlB _ w4.heap.size (.pointer o2) m2 r2 f2 F2 g2)
            repeat (with_reducible refine PlB.other ?_ (by show w4.heap.size ≠ w2.heap.size; omega) _)
            exact HQ6.out
          · refine (?_ : PX _ o m r f F' g' bs')
            repeat (with_reducible refine PX.far ?_ HAp.out.n1 _)
            exact HX6.out
          · refine (?_ : PX _ o2 m2 r2 f2 F2 g2 cs2)
            repeat (with_reducible refine PX.far ?_ HAp.out.n3 _)
            exact HY6.out
          · refine (?_ : Below w.heap.size w _)
            repeat (with_reducible refine Below.setCell ?_ (by show w.heap.size ≤ w2.heap.size; omega) _)
            exact HB6.out
        case measure => simp [intOf]; omega
      · have hpar : ((i : Int) % 2 == 0) = false := by simp [hev]
        clear hev
        obtain ⟨p0, p1, p2, p3, p4, p5⟩ := hqb.out.c
        go_wp2_with fail
        rw [← HWa.out]
        refine (step_x HEn.out HBa.out hap.out.l2 HYa.out m21 r21 f21 k HKr.out.1 HKr.out.2 S (by omega)).mono ?_
        rintro x w6 ⟨F', g', bs', rfl, hy6, hg6, hF6⟩
        have HAp : Hid (Apart w w2.heap.size w4.heap.size cs bs') := hap.out.right hg6 HBa.out.size HXa.out.lt HPa.out.lt HQa.out.lt
        have HY6 : Hid (PX w6 o2 m2 r2 f2 F' g' bs') := hy6
        have HX6 : Hid (PX w6 o m r f F g cs) := HXa.out.but hg6.but (fun x hx e => hap.out.dis x hx e)
        have HP6 : Hid (PlB w6 w2.heap.size (.pointer o) m r f F g) := HPa.out.but hg6.but hap.out.n3
        have HQ6 : Hid (PlB w6 w4.heap.size (.pointer o2) m2 r2 f2 F2 g2) := HQa.out.but hg6.but hap.out.n4
        have HB6 : Hid (Below w.heap.size w w6) := hg6.bel hap.out.l2 HBa.out
        have hF7 := HFt.out (F.size + F'.size) (by omega)
        clear hy6 hg6 hF6 p0 p1 p2 p3 p4 p5 q0 q1
        obtain ⟨p0, p1, p2, p3, p4, p5⟩ := HQ6.out.c
        have y0 := HQ6.out.f 0
        have y1 := HQ6.out.f 1
        have y2 := HQ6.out.f 2
        have y3 := HQ6.out.f 3
        have y4 := HQ6.out.f 4
        have y5 := HQ6.out.f 5
        go_wp2
        go_roundw
        case rel =>
          refine ⟨i + 1, F, g, cs, F', g', bs', by omega, by go_num, hF7, ?_, ?_, ?_, ?_, HAp, ?_⟩
          · refine (?_ : PlB _ w2.heap.size (.pointer o) m r f F g)
            repeat (with_reducible refine PlB.other ?_ (by show w2.heap.size ≠ w4.heap.size; omega) _)
            exact HP6.out
          · exact PlB.six HQ6.out
          · refine (?_ : PX _ o m r f F g cs)
            repeat (with_reducible refine PX.far ?_ HAp.out.n2 _)
            exact HX6.out
          · refine (?_ : PX _ o2 m2 r2 f2 F' g' bs')
            repeat (with_reducible refine PX.far ?_ HAp.out.n4 _)
            exact HY6.out
          · refine (?_ : Below w.heap.size w _)
            repeat (with_reducible refine Below.setCell ?_ (by show w.heap.size ≤ w4.heap.size; omega) _)
            exact HB6.out
        case measure => simp [intOf]; omega
    · go_wp2
      go_ret
      exact ⟨rfl, hbl.out⟩

end Ck
end Go.Proofs.YtdbnlpnnfnodnaaGreatDoor
