/-
  Worlds that are as they were but for some blocks; slices of bytes, wherever they lie; a ring in memory.
-/
import Derived.Test.YtiecfidkoficnaaGPlain
import Derived.Below
import Derived.Deep.Draws
import Derived.Laws.OwnMore
set_option linter.unusedVariables false
set_option linter.unusedSimpArgs false
namespace Go.Proofs.Ytiecfidkoficnaa
open Go.RowKit
namespace Rg

/-- Of what was there nothing has turned but the blocks bs. -/
structure But (bs : List Nat) (w w' : World) : Prop where
  os : w'.os = w.os
  tape : w'.tape = w.tape
  output : w'.output = w.output
  size : w.heap.size ≤ w'.heap.size
  block : ∀ k, k < w.heap.size → k ∉ bs → w'.heap[k]? = w.heap[k]?
theorem But.refl (bs : List Nat) (w : World) : But bs w w := ⟨rfl, rfl, rfl, Nat.le_refl _, fun _ _ _ => rfl⟩
theorem But.trans {bs : List Nat} {a b c : World} (h : But bs a b) (k : But bs b c) : But bs a c :=
  ⟨k.os.trans h.os, k.tape.trans h.tape, k.output.trans h.output, Nat.le_trans h.size k.size, fun i hi hn => (k.block i (Nat.lt_of_lt_of_le hi h.size) hn).trans (h.block i hi hn)⟩
theorem But.mono {bs cs : List Nat} {a b : World} (h : But bs a b) (hs : ∀ x, x ∈ bs → x ∈ cs) : But cs a b := ⟨h.os, h.tape, h.output, h.size, fun i hi hn => h.block i hi (fun e => hn (hs i e))⟩
theorem But.nil {cs : List Nat} {a b : World} (h : But [] a b) : But cs a b := h.mono (fun _ e => by cases e)
theorem But.of_below {w w' : World} (h : Below w.heap.size w w') : But [] w w' := ⟨h.os, h.tape, h.output, h.size, fun k hk _ => h.block k hk⟩
theorem But.to_below {w w' : World} (h : But [] w w') : Below w.heap.size w w' := ⟨h.os, h.tape, h.output, h.size, fun k hk => h.block k hk (fun e => by cases e)⟩
theorem But.below {bs : List Nat} {w w' : World} {B : Nat} (h : But bs w w') (hB : B ≤ w.heap.size) (hb : ∀ x, x ∈ bs → B ≤ x) : Below B w w' :=
  ⟨h.os, h.tape, h.output, h.size, fun k hk => h.block k (by omega) (fun e => by have := hb k e; omega)⟩
theorem But.alloc {bs : List Nat} {a w : World} (h : But bs a w) (o : Obj) : But bs a (w.alloc o) := h.trans ⟨rfl, rfl, rfl, by simp, fun k hk _ => Below.heap_alloc _ _ _ hk⟩
theorem But.setCell {bs : List Nat} {a w : World} (h : But bs a w) {p : Addr} (hp : p.block ∈ bs) (u : Value) : But bs a (w.setCell p u) :=
  h.trans ⟨rfl, rfl, rfl, by simp [World.setCell], fun k hk hn => Below.heap_setCell _ _ _ _ (fun e => hn (e ▸ hp))⟩
theorem But.setRow {bs : List Nat} {a w : World} (h : But bs a w) {g : Nat} (hp : g ∈ bs) (cs : Array Value) : But bs a (w.setRow g cs) :=
  h.trans ⟨rfl, rfl, rfl, by simp [World.setRow], fun k hk hn => setRow_other w g k cs (fun e => hn (e ▸ hp))⟩
theorem But.drew {bs : List Nat} {a w : World} (h : But bs a w) : But bs a w.drew := ⟨h.os, h.tape, h.output, h.size, h.block⟩
theorem But.drewN {bs : List Nat} {a w : World} (h : But bs a w) (q : Nat) : But bs a (w.drewN q) := by
  induction q with
  | zero => exact h
  | succ q ih => exact ih.drew
theorem But.grown {bs : List Nat} {a w w' : World} {row : Option Nat} (h : But bs a w) (hg : w.grownBy w' row) (hr : ∀ k, row = some k → k ∈ bs) : But bs a w' :=
  h.trans ⟨hg.os, hg.tape, hg.output, hg.size, fun k hk hn => hg.block k hk (fun e => hn (hr k e.symm))⟩
theorem But.cell {bs : List Nat} {w w' : World} (h : But bs w w') {p : Addr} {v : Value} (hc : w.cell? p = some v) (hn : p.block ∉ bs) : w'.cell? p = some v := by
  rw [World.cell?_of_block (w := w) (h.block p.block (World.block_lt_of_cell? w _ hc) hn)]
  exact hc
theorem But.heap {bs : List Nat} {w w' : World} (h : But bs w w') {b : Nat} {o : Obj} (hc : w.heap[b]? = some o) (hn : b ∉ bs) : w'.heap[b]? = some o := by
  rw [h.block b (Array.getElem?_eq_some_iff.1 hc).1 hn]
  exact hc
theorem But.owns {bs : List Nat} {w w' : World} (h : But bs w w') {B T S n : Nat} {v : Value} {xs : List Value} (ho : w.ownsRow B T S v n xs) (hn : ∀ g, v.ownBlock = some g → g ∉ bs) : w'.ownsRow B T S v n xs := by
  refine ⟨ho.1, ?_⟩
  rcases ho.2 with hz | ⟨g, cap, cur, rfl, hb, hg, rest⟩
  · exact .inl hz
  · exact .inr ⟨g, cap, cur, rfl, hb, h.heap hg (hn g rfl), rest⟩

theorem bel_drewN {B : Nat} {a w : World} (h : Below B a w) (q : Nat) : Below B a (w.drewN q) := by
  induction q with
  | zero => exact h
  | succ q ih => exact ih.drew
theorem bel_trans {a b c : World} (h : Below a.heap.size a b) (k : Below b.heap.size b c) : Below a.heap.size a c := h.trans (k.mono h.size)

/-- The value is a slice of these bytes. -/
def RdB (w : World) (v : Value) (l : List UInt8) : Prop :=
  ∃ a cap, v = .slice a l.length cap ∧ l.length ≤ cap ∧ (a = none → cap = 0) ∧ (l = [] ∨ ∃ g o, a = some ⟨g, o, none⟩ ∧ ∀ j x, l[j]? = some x → w.cell? ⟨g, o + j, none⟩ = some (.int .u8 (x.toNat : Int)))
theorem RdB.nil (w : World) : RdB w (.slice none 0 0) [] := ⟨none, 0, rfl, Nat.le_refl _, fun _ => rfl, .inl rfl⟩
theorem RdB.but {bs : List Nat} {w w' : World} {v : Value} {l : List UInt8} (h : RdB w v l) (b : But bs w w') (hn : ∀ g, v.ownBlock = some g → g ∉ bs) : RdB w' v l := by
  obtain ⟨a, cap, rfl, hc, hz, h⟩ := h
  refine ⟨a, cap, rfl, hc, hz, ?_⟩
  rcases h with h | ⟨g, o, rfl, h⟩
  · exact .inl h
  · exact .inr ⟨g, o, rfl, fun j x hj => b.cell (h j x hj) (hn g rfl)⟩
theorem RdB.below {w w' : World} {v : Value} {l : List UInt8} (h : RdB w v l) (b : Below w.heap.size w w') : RdB w' v l := h.but (But.of_below b) (fun _ _ e => by cases e)
/-- A row of the call's own is read. -/
theorem RdB.own {w : World} {B T : Nat} {v : Value} {l : List UInt8} (h : w.ownsRow B T 1 v l.length (bv l)) : RdB w v l := by
  rcases h.2 with ⟨rfl, hn⟩ | ⟨g, cap, cur, rfl, hb, hg, hc, hm, hs, ht⟩
  · obtain rfl : l = [] := List.eq_nil_of_length_eq_zero hn
    exact RdB.nil w
  · refine ⟨_, cap, rfl, hc, (fun e => by cases e), .inr ⟨g, 0, rfl, fun j x hj => ?_⟩⟩
    have := World.ownsRow.cells h (g := g) rfl j _ (by rw [bv_get, hj]; rfl)
    rw [Addr.add_lit] at this
    exact this
theorem owns_len {w : World} {B T : Nat} {v : Value} {n : Nat} {l : List UInt8} (h : w.ownsRow B T 1 v n (bv l)) : n = l.length := by
  have := h.1
  rw [bv_length] at this
  omega
theorem RdB.ofOwn {w : World} {B T n : Nat} {v : Value} {l : List UInt8} (h : w.ownsRow B T 1 v n (bv l)) : RdB w v l := by
  have hn := owns_len h
  subst hn
  exact RdB.own h
theorem owns_fresh {w : World} {B T S n : Nat} {v : Value} {xs : List Value} (h : w.ownsRow B T S v n xs) : ∀ g, v.ownBlock = some g → B ≤ g := fun g hg => (World.ownsRow.lt h g hg).1

/-- A ring in memory: its two blocks, its places, its head, what waits. -/
structure IsRing (w : World) (rp sb cap head : Nat) (xs : List UInt8) : Prop where
  str : w.heap[rp]? = some (.cells #[.slice (some ⟨sb, 0, none⟩) cap cap, .int .i64 (head : Int), .int .i64 (xs.length : Int)] 95 (0, 0))
  store : ∃ st : List UInt8, st.length = cap ∧ w.heap[sb]? = some (.cells (bv st).toArray 5 (0, 0)) ∧ win st head xs.length = xs
  ne : rp ≠ sb
  hhead : head < cap
  hlen : xs.length ≤ cap
  hcap : cap ≤ 1048576
theorem IsRing.but {bs : List Nat} {w w' : World} {rp sb cap head : Nat} {xs : List UInt8} (h : IsRing w rp sb cap head xs) (b : But bs w w') (h1 : rp ∉ bs) (h2 : sb ∉ bs) : IsRing w' rp sb cap head xs := by
  obtain ⟨st, hl, hs, hw⟩ := h.store
  exact ⟨b.heap h.str h1, ⟨st, hl, b.heap hs h2, hw⟩, h.ne, h.hhead, h.hlen, h.hcap⟩
theorem IsRing.below {w w' : World} {rp sb cap head : Nat} {xs : List UInt8} (h : IsRing w rp sb cap head xs) (b : Below w.heap.size w w') : IsRing w' rp sb cap head xs := h.but (But.of_below b) (fun e => by cases e) (fun e => by cases e)
theorem IsRing.lt1 {w : World} {rp sb cap head : Nat} {xs : List UInt8} (h : IsRing w rp sb cap head xs) : rp < w.heap.size := (Array.getElem?_eq_some_iff.1 h.str).1
theorem IsRing.lt2 {w : World} {rp sb cap head : Nat} {xs : List UInt8} (h : IsRing w rp sb cap head xs) : sb < w.heap.size := by
  obtain ⟨st, _, hs, _⟩ := h.store
  exact (Array.getElem?_eq_some_iff.1 hs).1
theorem IsRing.cells {w : World} {rp sb cap head : Nat} {xs : List UInt8} (h : IsRing w rp sb cap head xs) :
    w.cell? ⟨rp, 0, none⟩ = some (.slice (some ⟨sb, 0, none⟩) cap cap) ∧ w.cell? ⟨rp, 1, none⟩ = some (.int .i64 (head : Int)) ∧ w.cell? ⟨rp, 2, none⟩ = some (.int .i64 (xs.length : Int)) ∧ ∀ i, w.frozen? ⟨rp, i, none⟩ = false := by
  refine ⟨?_, ?_, ?_, fun i => frozen_of_row w rp i _ _ h.str⟩ <;> rw [cell_of_row w rp _ _ _ _ h.str] <;> rfl

end Rg
end Go.Proofs.Ytiecfidkoficnaa
