/- Several texts as one. -/
import Derived.Laws.CopyOwn
import Derived.Below
import Derived.Deep.Draws
import Derived.Laws.OwnMore
import Derived.Test.YtclciccgcegpmaaProg
import Derived.WalkKit
import Derived.Laws.AppendOwnNone
import Derived.Deep.RegionLaw
import Derived.Deep.DeepMust
/-
  Rings as lists: a store that is gone round, its window from a head on; what a copy in two pieces makes of it.
-/
set_option linter.unusedVariables false
set_option linter.unusedSimpArgs false
namespace Go.Proofs.Ytclciccgcegpmaa
namespace Rg

/-- n places from h on, gone round. -/
def win (st : List UInt8) (h n : Nat) : List UInt8 := ((st ++ st).drop h).take n
/-- The place of the number i. -/
def pl (cap h i : Nat) : Nat := if cap ≤ h + i then h + i - cap else h + i
/-- How many of n places from s on lie ahead of the end. -/
def ahead (cap s n : Nat) : Nat := min (s + n) cap - s

theorem win_length (st : List UInt8) (h n : Nat) (hn : h + n ≤ 2 * st.length) : (win st h n).length = n := by
  unfold win
  simp
  omega
theorem win_get (st : List UInt8) (h n i : Nat) (hi : i < n) (hh : h < st.length) (hn : n ≤ st.length) : (win st h n)[i]? = st[pl st.length h i]? := by
  unfold win pl
  rw [List.getElem?_take_of_lt hi, List.getElem?_drop, List.getElem?_append]
  by_cases c : st.length ≤ h + i
  · rw [if_neg (by omega), if_pos c]
  · rw [if_pos (by omega), if_neg c]
theorem win_zero (st : List UInt8) (h : Nat) : win st h 0 = [] := rfl

theorem pl_lt (cap h i : Nat) (hh : h < cap) (hi : i ≤ cap) : pl cap h i < cap := by
  unfold pl
  split <;> omega
theorem pl_zero (cap h : Nat) (hh : h < cap) : pl cap h 0 = h := by
  unfold pl
  split <;> omega
theorem pl_mod (cap h i : Nat) (hh : h < cap) (hi : i ≤ cap) : pl cap h i = (h + i) % cap := by
  unfold pl
  split
  · rw [Nat.mod_eq_sub_mod (by omega), Nat.mod_eq_of_lt (by omega)]
  · rw [Nat.mod_eq_of_lt (by omega)]
theorem pl_pl (cap h f i : Nat) (hh : h < cap) (hi : f + i ≤ cap) : pl cap (pl cap h f) i = pl cap h (f + i) := by
  unfold pl
  split <;> split <;> split <;> omega

/-- A part of a window is a window. -/
theorem win_part (st : List UInt8) (h n f m : Nat) (hh : h < st.length) (hn : n ≤ st.length) (hm : f + m ≤ n) : ((win st h n).drop f).take m = win st (pl st.length h f) m := by
  have hp := pl_lt st.length h f hh (by omega)
  apply List.ext_getElem?
  intro i
  by_cases hi : i < m
  · rw [List.getElem?_take_of_lt hi, List.getElem?_drop, win_get st h n (f + i) (by omega) hh hn, win_get st _ m i hi hp (by omega), pl_pl _ _ _ _ hh (by omega)]
  · rw [List.getElem?_eq_none (by simp; omega), List.getElem?_eq_none (by rw [win_length _ _ _ (by omega)]; omega)]
theorem win_drop (st : List UInt8) (h n f : Nat) (hh : h < st.length) (hn : n ≤ st.length) (hf : f ≤ n) : (win st h n).drop f = win st (pl st.length h f) (n - f) := by
  have := win_part st h n f (n - f) hh hn (by omega)
  rw [← this, List.take_of_length_le]
  rw [List.length_drop, win_length _ _ _ (by omega)]
  omega
theorem win_take (st : List UInt8) (h n m : Nat) (hh : h < st.length) (hn : n ≤ st.length) (hm : m ≤ n) : (win st h n).take m = win st h m := by
  have := win_part st h n 0 m hh hn (by omega)
  rw [List.drop_zero, pl_zero _ _ hh] at this
  exact this

theorem ahead_le (cap s n : Nat) (hs : s < cap) : ahead cap s n ≤ n := by unfold ahead; omega
theorem ahead_fit (cap s n : Nat) (hs : s < cap) : s + ahead cap s n ≤ cap := by unfold ahead; omega
theorem ahead_rest (cap s n : Nat) (hs : s < cap) (hn : n ≤ cap) : n - ahead cap s n ≤ s := by unfold ahead; omega

/-- A window is two pieces of the store. -/
theorem win_pieces (st : List UInt8) (s n : Nat) (hs : s < st.length) (hn : n ≤ st.length) : win st s n = (st.drop s).take (ahead st.length s n) ++ st.take (n - ahead st.length s n) := by
  apply List.ext_getElem?
  intro i
  have hl : ((st.drop s).take (ahead st.length s n)).length = ahead st.length s n := by
    have := ahead_fit st.length s n hs
    simp
    omega
  by_cases hi : i < n
  · rw [win_get st s n i hi hs hn, List.getElem?_append, hl]
    by_cases c : i < ahead st.length s n
    · rw [if_pos c, List.getElem?_take_of_lt c, List.getElem?_drop]
      unfold pl ahead at *
      rw [if_neg (by omega)]
    · rw [if_neg c, List.getElem?_take_of_lt (by omega)]
      unfold pl ahead at *
      rw [if_pos (by omega)]
      congr 1
      omega
  · rw [List.getElem?_eq_none (by rw [win_length _ _ _ (by omega)]; omega), List.getElem?_eq_none]
    rw [List.length_append, hl, List.length_take]
    have := ahead_le st.length s n hs
    omega

theorem splice_get {α : Type} (L : List α) (off : Nat) (cs : List α) (h : off + cs.length ≤ L.length) (i : Nat) : (splice L off cs)[i]? = if i < off then L[i]? else if i < off + cs.length then cs[i - off]? else L[i]? := by
  unfold splice
  have hl : (L.take off).length = off := by simp; omega
  rw [List.getElem?_append, hl]
  by_cases c : i < off
  · rw [if_pos c, if_pos c, List.getElem?_take_of_lt c]
  · rw [if_neg c, if_neg c, List.getElem?_append]
    by_cases c2 : i < off + cs.length
    · rw [if_pos (by omega), if_pos c2]
    · rw [if_neg (by omega), if_neg c2, List.getElem?_drop]
      congr 1
      omega
theorem splice_map {α β : Type} (f : α → β) (L : List α) (off : Nat) (cs : List α) : splice (L.map f) off (cs.map f) = (splice L off cs).map f := by
  unfold splice
  simp

/-- What was put in two pieces stands behind what waited. -/
theorem win_put (st : List UInt8) (h c : Nat) (p1 p2 : List UInt8) (hh : h < st.length) (hc : c + (p1.length + p2.length) ≤ st.length) (h1 : p1.length = ahead st.length (pl st.length h c) (p1.length + p2.length)) :
    win (splice (splice st (pl st.length h c) p1) 0 p2) h (c + (p1.length + p2.length)) = win st h c ++ (p1 ++ p2) := by
  have hs := pl_lt st.length h c hh (by omega)
  have hf := ahead_fit st.length (pl st.length h c) (p1.length + p2.length) hs
  have hr := ahead_rest st.length (pl st.length h c) (p1.length + p2.length) hs (by omega)
  rw [← h1] at hf hr
  have l1 : (splice st (pl st.length h c) p1).length = st.length := length_splice _ _ _ hf
  have l2 : (splice (splice st (pl st.length h c) p1) 0 p2).length = st.length := by rw [length_splice _ _ _ (by rw [l1]; omega), l1]
  apply List.ext_getElem?
  intro i
  have lw : (win st h c).length = c := win_length _ _ _ (by omega)
  by_cases hi : i < c + (p1.length + p2.length)
  · rw [win_get _ h _ i hi (by rw [l2]; exact hh) (by rw [l2]; omega), l2, splice_get _ _ _ (by rw [l1]; omega), splice_get _ _ _ hf, List.getElem?_append, lw, if_neg (by omega)]
    have ei : pl st.length h i = if st.length ≤ h + i then h + i - st.length else h + i := rfl
    have ec : pl st.length h c = if st.length ≤ h + c then h + c - st.length else h + c := rfl
    have ea : ahead st.length (pl st.length h c) (p1.length + p2.length) = min (pl st.length h c + (p1.length + p2.length)) st.length - pl st.length h c := rfl
    rw [ea] at h1
    by_cases ci : i < c
    · rw [if_pos ci, win_get _ h c i ci hh (by omega)]
      rw [if_neg (by split at ei <;> split at ec <;> omega)]
      by_cases c3 : pl st.length h i < pl st.length h c
      · rw [if_pos c3]
      · rw [if_neg c3, if_neg (by split at ei <;> split at ec <;> omega)]
    · rw [if_neg ci, List.getElem?_append]
      by_cases c2 : i - c < p1.length
      · rw [if_pos c2]
        rw [if_neg (by split at ei <;> split at ec <;> omega), if_neg (by split at ei <;> split at ec <;> omega), if_pos (by split at ei <;> split at ec <;> omega)]
        congr 1
        split at ei <;> split at ec <;> omega
      · rw [if_neg c2, if_pos (by split at ei <;> split at ec <;> omega)]
        congr 1
        split at ei <;> split at ec <;> omega
  · rw [List.getElem?_eq_none (by rw [win_length _ _ _ (by rw [l2]; omega)]; omega), List.getElem?_eq_none]
    rw [List.length_append, List.length_append, lw]
    omega

/-- Two copies fill a new row. -/
theorem fill_two (n k : Nat) (p1 p2 : List UInt8) (h1 : p1.length = k) (h2 : k + p2.length = n) : splice (splice (List.replicate n 0) 0 p1) k p2 = p1 ++ p2 := by
  have l0 : (List.replicate n (0 : UInt8)).length = n := by simp
  have l1 : (splice (List.replicate n (0 : UInt8)) 0 p1).length = n := by rw [length_splice _ _ _ (by rw [l0]; omega), l0]
  apply List.ext_getElem?
  intro i
  rw [splice_get _ _ _ (by rw [l1]; omega), splice_get _ _ _ (by rw [l0]; omega), List.getElem?_append]
  by_cases c : i < k
  · rw [if_pos c, if_neg (by omega), if_pos (by omega), if_pos (by omega), Nat.sub_zero]
  · rw [if_neg c, if_neg (show ¬ i < p1.length by omega)]
    by_cases c2 : i < k + p2.length
    · rw [if_pos c2, h1]
    · rw [if_neg c2, if_neg (by omega), if_neg (by omega), List.getElem?_eq_none (by rw [l0]; omega), List.getElem?_eq_none (by omega)]

/-- A list's bytes as cells. -/
def bv (l : List UInt8) : List Value := l.map fun x => Value.int .u8 (x.toNat : Int)
theorem bv_length (l : List UInt8) : (bv l).length = l.length := by unfold bv; simp
theorem bv_get (l : List UInt8) (i : Nat) : (bv l)[i]? = (l[i]?).map fun x => Value.int .u8 (x.toNat : Int) := by unfold bv; simp
theorem bv_append (a b : List UInt8) : bv (a ++ b) = bv a ++ bv b := by unfold bv; simp
theorem bv_one (l : List UInt8) : ∀ v ∈ bv l, v.oneCell' = true := by
  intro v hv
  unfold bv at hv
  obtain ⟨x, _, rfl⟩ := List.mem_map.1 hv
  rfl
theorem bv_splice (L : List UInt8) (off : Nat) (cs : List UInt8) : splice (bv L) off (bv cs) = bv (splice L off cs) := splice_map _ L off cs

end Rg
end Go.Proofs.Ytclciccgcegpmaa

/-
  Worlds that are as they were but for some blocks; slices of bytes, wherever they lie; a ring in memory.
-/
set_option linter.unusedVariables false
set_option linter.unusedSimpArgs false
namespace Go.Proofs.Ytclciccgcegpmaa
open Go.RowKit
namespace Rg

/-- Of what was there nothing has turned but the blocks bs. -/
structure But (bs : List Nat) (w w' : World) : Prop where
  os : w'.os = w.os
  tape : w'.tape = w.tape
  output : w'.output = w.output
  size : w.heap.size ≤ w'.heap.size
  block : ∀ k, k < w.heap.size → k ∉ bs → w'.heap[k]? = w.heap[k]?
theorem But.refl (bs : List Nat) (w : World) : But bs w w := ⟨rfl, rfl, rfl, Nat.le_refl _, fun _ _ _ => rfl⟩
theorem But.trans {bs : List Nat} {a b c : World} (h : But bs a b) (k : But bs b c) : But bs a c :=
  ⟨k.os.trans h.os, k.tape.trans h.tape, k.output.trans h.output, Nat.le_trans h.size k.size, fun i hi hn => (k.block i (Nat.lt_of_lt_of_le hi h.size) hn).trans (h.block i hi hn)⟩
theorem But.mono {bs cs : List Nat} {a b : World} (h : But bs a b) (hs : ∀ x, x ∈ bs → x ∈ cs) : But cs a b := ⟨h.os, h.tape, h.output, h.size, fun i hi hn => h.block i hi (fun e => hn (hs i e))⟩
theorem But.nil {cs : List Nat} {a b : World} (h : But [] a b) : But cs a b := h.mono (fun _ e => by cases e)
theorem But.of_below {w w' : World} (h : Below w.heap.size w w') : But [] w w' := ⟨h.os, h.tape, h.output, h.size, fun k hk _ => h.block k hk⟩
theorem But.to_below {w w' : World} (h : But [] w w') : Below w.heap.size w w' := ⟨h.os, h.tape, h.output, h.size, fun k hk => h.block k hk (fun e => by cases e)⟩
theorem But.below {bs : List Nat} {w w' : World} {B : Nat} (h : But bs w w') (hB : B ≤ w.heap.size) (hb : ∀ x, x ∈ bs → B ≤ x) : Below B w w' :=
  ⟨h.os, h.tape, h.output, h.size, fun k hk => h.block k (by omega) (fun e => by have := hb k e; omega)⟩
theorem But.alloc {bs : List Nat} {a w : World} (h : But bs a w) (o : Obj) : But bs a (w.alloc o) := h.trans ⟨rfl, rfl, rfl, by simp, fun k hk _ => Below.heap_alloc _ _ _ hk⟩
theorem But.setCell {bs : List Nat} {a w : World} (h : But bs a w) {p : Addr} (hp : p.block ∈ bs) (u : Value) : But bs a (w.setCell p u) :=
  h.trans ⟨rfl, rfl, rfl, by simp [World.setCell], fun k hk hn => Below.heap_setCell _ _ _ _ (fun e => hn (e ▸ hp))⟩
theorem But.setRow {bs : List Nat} {a w : World} (h : But bs a w) {g : Nat} (hp : g ∈ bs) (cs : Array Value) : But bs a (w.setRow g cs) :=
  h.trans ⟨rfl, rfl, rfl, by simp [World.setRow], fun k hk hn => setRow_other w g k cs (fun e => hn (e ▸ hp))⟩
theorem But.drew {bs : List Nat} {a w : World} (h : But bs a w) : But bs a w.drew := ⟨h.os, h.tape, h.output, h.size, h.block⟩
theorem But.drewN {bs : List Nat} {a w : World} (h : But bs a w) (q : Nat) : But bs a (w.drewN q) := by
  induction q with
  | zero => exact h
  | succ q ih => exact ih.drew
theorem But.grown {bs : List Nat} {a w w' : World} {row : Option Nat} (h : But bs a w) (hg : w.grownBy w' row) (hr : ∀ k, row = some k → k ∈ bs) : But bs a w' :=
  h.trans ⟨hg.os, hg.tape, hg.output, hg.size, fun k hk hn => hg.block k hk (fun e => hn (hr k e.symm))⟩
theorem But.cell {bs : List Nat} {w w' : World} (h : But bs w w') {p : Addr} {v : Value} (hc : w.cell? p = some v) (hn : p.block ∉ bs) : w'.cell? p = some v := by
  rw [World.cell?_of_block (w := w) (h.block p.block (World.block_lt_of_cell? w _ hc) hn)]
  exact hc
theorem But.heap {bs : List Nat} {w w' : World} (h : But bs w w') {b : Nat} {o : Obj} (hc : w.heap[b]? = some o) (hn : b ∉ bs) : w'.heap[b]? = some o := by
  rw [h.block b (Array.getElem?_eq_some_iff.1 hc).1 hn]
  exact hc
theorem But.owns {bs : List Nat} {w w' : World} (h : But bs w w') {B T S n : Nat} {v : Value} {xs : List Value} (ho : w.ownsRow B T S v n xs) (hn : ∀ g, v.ownBlock = some g → g ∉ bs) : w'.ownsRow B T S v n xs := by
  refine ⟨ho.1, ?_⟩
  rcases ho.2 with hz | ⟨g, cap, cur, rfl, hb, hg, rest⟩
  · exact .inl hz
  · exact .inr ⟨g, cap, cur, rfl, hb, h.heap hg (hn g rfl), rest⟩

theorem bel_drewN {B : Nat} {a w : World} (h : Below B a w) (q : Nat) : Below B a (w.drewN q) := by
  induction q with
  | zero => exact h
  | succ q ih => exact ih.drew
theorem bel_trans {a b c : World} (h : Below a.heap.size a b) (k : Below b.heap.size b c) : Below a.heap.size a c := h.trans (k.mono h.size)

/-- The value is a slice of these bytes. -/
def RdB (w : World) (v : Value) (l : List UInt8) : Prop :=
  ∃ a cap, v = .slice a l.length cap ∧ l.length ≤ cap ∧ (a = none → cap = 0) ∧ (l = [] ∨ ∃ g o, a = some ⟨g, o, none⟩ ∧ ∀ j x, l[j]? = some x → w.cell? ⟨g, o + j, none⟩ = some (.int .u8 (x.toNat : Int)))
theorem RdB.nil (w : World) : RdB w (.slice none 0 0) [] := ⟨none, 0, rfl, Nat.le_refl _, fun _ => rfl, .inl rfl⟩
theorem RdB.but {bs : List Nat} {w w' : World} {v : Value} {l : List UInt8} (h : RdB w v l) (b : But bs w w') (hn : ∀ g, v.ownBlock = some g → g ∉ bs) : RdB w' v l := by
  obtain ⟨a, cap, rfl, hc, hz, h⟩ := h
  refine ⟨a, cap, rfl, hc, hz, ?_⟩
  rcases h with h | ⟨g, o, rfl, h⟩
  · exact .inl h
  · exact .inr ⟨g, o, rfl, fun j x hj => b.cell (h j x hj) (hn g rfl)⟩
theorem RdB.below {w w' : World} {v : Value} {l : List UInt8} (h : RdB w v l) (b : Below w.heap.size w w') : RdB w' v l := h.but (But.of_below b) (fun _ _ e => by cases e)
/-- A row of the call's own is read. -/
theorem RdB.own {w : World} {B T : Nat} {v : Value} {l : List UInt8} (h : w.ownsRow B T 1 v l.length (bv l)) : RdB w v l := by
  rcases h.2 with ⟨rfl, hn⟩ | ⟨g, cap, cur, rfl, hb, hg, hc, hm, hs, ht⟩
  · obtain rfl : l = [] := List.eq_nil_of_length_eq_zero hn
    exact RdB.nil w
  · refine ⟨_, cap, rfl, hc, (fun e => by cases e), .inr ⟨g, 0, rfl, fun j x hj => ?_⟩⟩
    have := World.ownsRow.cells h (g := g) rfl j _ (by rw [bv_get, hj]; rfl)
    rw [Addr.add_lit] at this
    exact this
theorem owns_len {w : World} {B T : Nat} {v : Value} {n : Nat} {l : List UInt8} (h : w.ownsRow B T 1 v n (bv l)) : n = l.length := by
  have := h.1
  rw [bv_length] at this
  omega
theorem RdB.ofOwn {w : World} {B T n : Nat} {v : Value} {l : List UInt8} (h : w.ownsRow B T 1 v n (bv l)) : RdB w v l := by
  have hn := owns_len h
  subst hn
  exact RdB.own h
theorem owns_fresh {w : World} {B T S n : Nat} {v : Value} {xs : List Value} (h : w.ownsRow B T S v n xs) : ∀ g, v.ownBlock = some g → B ≤ g := fun g hg => (World.ownsRow.lt h g hg).1

/-- A ring in memory: its two blocks, its places, its head, what waits. -/
structure IsRing (w : World) (rp sb cap head : Nat) (xs : List UInt8) : Prop where
  str : w.heap[rp]? = some (.cells #[.slice (some ⟨sb, 0, none⟩) cap cap, .int .i64 (head : Int), .int .i64 (xs.length : Int)] 57 (0, 0))
  store : ∃ st : List UInt8, st.length = cap ∧ w.heap[sb]? = some (.cells (bv st).toArray 5 (0, 0)) ∧ win st head xs.length = xs
  ne : rp ≠ sb
  hhead : head < cap
  hlen : xs.length ≤ cap
  hcap : cap ≤ 1048576
theorem IsRing.but {bs : List Nat} {w w' : World} {rp sb cap head : Nat} {xs : List UInt8} (h : IsRing w rp sb cap head xs) (b : But bs w w') (h1 : rp ∉ bs) (h2 : sb ∉ bs) : IsRing w' rp sb cap head xs := by
  obtain ⟨st, hl, hs, hw⟩ := h.store
  exact ⟨b.heap h.str h1, ⟨st, hl, b.heap hs h2, hw⟩, h.ne, h.hhead, h.hlen, h.hcap⟩
theorem IsRing.below {w w' : World} {rp sb cap head : Nat} {xs : List UInt8} (h : IsRing w rp sb cap head xs) (b : Below w.heap.size w w') : IsRing w' rp sb cap head xs := h.but (But.of_below b) (fun e => by cases e) (fun e => by cases e)
theorem IsRing.lt1 {w : World} {rp sb cap head : Nat} {xs : List UInt8} (h : IsRing w rp sb cap head xs) : rp < w.heap.size := (Array.getElem?_eq_some_iff.1 h.str).1
theorem IsRing.lt2 {w : World} {rp sb cap head : Nat} {xs : List UInt8} (h : IsRing w rp sb cap head xs) : sb < w.heap.size := by
  obtain ⟨st, _, hs, _⟩ := h.store
  exact (Array.getElem?_eq_some_iff.1 hs).1
theorem IsRing.cells {w : World} {rp sb cap head : Nat} {xs : List UInt8} (h : IsRing w rp sb cap head xs) :
    w.cell? ⟨rp, 0, none⟩ = some (.slice (some ⟨sb, 0, none⟩) cap cap) ∧ w.cell? ⟨rp, 1, none⟩ = some (.int .i64 (head : Int)) ∧ w.cell? ⟨rp, 2, none⟩ = some (.int .i64 (xs.length : Int)) ∧ ∀ i, w.frozen? ⟨rp, i, none⟩ = false := by
  refine ⟨?_, ?_, ?_, fun i => frozen_of_row w rp i _ _ h.str⟩ <;> rw [cell_of_row w rp _ _ _ _ h.str] <;> rfl

end Rg
end Go.Proofs.Ytclciccgcegpmaa

/-
  append of bytes to a row of the call's own; copy between rows; cuts of slices of bytes.
-/
set_option linter.unusedVariables false
set_option linter.unusedSimpArgs false
namespace Go.Proofs.Ytclciccgcegpmaa
open Go.RowKit
namespace Rg

theorem infoB : (Try.prog.info? 5).map (fun i => (i.zero, i.size, i.bytes)) = some (some (.int .u8 0), 1, 1) := by kernel_rfl
theorem sizeB : (Try.prog.info? 5).map (·.size) = some 1 := by kernel_rfl

theorem wpList_wanted {P : Program} {ops : Array Oper} {rest : List Oper} {o : Oper} {a : Act} {w : World} {Q : Exit → Act → World → Prop} (hw : Region.wanted o (yielded ops a.tmps) = true)
    (h : o.wp P a w (wpList P ops Q rest) Q) : wpList P ops Q (o :: rest) a w := by
  rw [wpList, if_pos hw]
  exact .inl h

/- append of bytes: the run. -/
set_option maxRecDepth 100000 in
theorem run_appB (o : TypeId) (B : Nat) (v y : Value) (t u : List UInt8) (W : World) (hown : W.ownsRow B 5 1 v t.length (bv t)) (hy : RdB W y u) (hlen : t.length + u.length ≤ 140737488355328) (hB : B ≤ W.heap.size) :
    ∃ v' w', (Builtin.append_ #[25, 25] o #[v, y]).run Try.prog W = .ok v' w' ∧ w'.ownsRow B 5 1 v' (t ++ u).length (bv (t ++ u)) ∧ W.grownBy w' v.ownBlock := by
  obtain ⟨i0, hi, hz0, hz1, hz2⟩ := info_parts infoB
  have own' : ∀ (ad : Addr) (c : Nat), y = .slice (some ad) u.length c → (∀ j x, u[j]? = some x → W.cell? (ad.add j) = some (.int .u8 (x.toNat : Int))) → ∃ v' w', (Builtin.append_ #[25, 25] o #[v, y]).run Try.prog W = .ok v' w' ∧ w'.ownsRow B 5 1 v' (t ++ u).length (bv (t ++ u)) ∧ W.grownBy w' v.ownBlock := by
    intro ad c ey hcell
    obtain ⟨v', w', h1, h2, h3, _⟩ := run_append_own (P := Try.prog) (w := W) B 25 o 5 i0 (.int .u8 0) 1 1 Try.underlying25 hi hz0 hz1 hz2 rfl (by decide) v t.length (bv t) hown ad u.length c (bv u) (by rw [bv_length]; omega)
      (fun j z hj => by
        rw [bv_get] at hj
        cases hu : u[j]? with
        | none => rw [hu] at hj; cases hj
        | some x => rw [hu] at hj; cases hj; exact hcell j x hu)
      (bv_one u) (by unfold maxLen; omega) (by omega) hB
    rw [ey]
    refine ⟨v', w', h1, ?_, h3⟩
    rw [bv_append, List.length_append]
    exact h2
  obtain ⟨a, cap, ey, hc, hz, hr⟩ := hy
  cases a with
  | none =>
    have hcap := hz rfl
    have hu : u = [] := by
      apply List.eq_nil_of_length_eq_zero
      omega
    subst hu
    subst ey
    subst hcap
    refine ⟨v, W, run_append_owned_none (P := Try.prog) (w := W) B 25 o 5 i0 1 Try.underlying25 hi v t.length _ hown, by simpa using hown, ⟨rfl, rfl, rfl, Nat.le_refl _, fun _ _ _ => rfl⟩⟩
  | some ad =>
    rcases hr with hr | ⟨g, o', e, hr⟩
    · subst hr
      exact own' ad cap ey (fun j x hj => by simp at hj)
    · injection e with e
      subst e
      exact own' _ cap ey (fun j x hj => by rw [Addr.add_lit]; exact hr j x hj)

theorem wp_appB {ops : Array Oper} {rest : List Oper} {o : Oper} {a : Act} {W : World} {Q : Exit → Act → World → Prop} (hw : Region.wanted o (yielded ops a.tmps) = true) (s x : Operand)
    (ho : o.op = .call { callee := .builtin .append, args := #[s, x], argTypes := #[25, 25] }) (B : Nat) (v y : Value) (t u : List UInt8)
    (hs : a.eval s = v) (hown : W.ownsRow B 5 1 v t.length (bv t)) (hx : a.eval x = y) (hy : RdB W y u) (hlen : t.length + u.length ≤ 140737488355328) (hB : B ≤ W.heap.size)
    (h : ∀ v' w', Hid (w'.ownsRow B 5 1 v' (t ++ u).length (bv (t ++ u))) → Hid (W.grownBy w' v.ownBlock) → wpList Try.prog ops Q rest (a.put o.dst v') w') : wpList Try.prog ops Q (o :: rest) a W := by
  refine wpList_wanted hw ?_
  obtain ⟨v', w', hrun, h1, h2⟩ := run_appB o.type B v y t u W hown hy hlen hB
  have := h v' w' h1 h2
  unfold Oper.wp
  simp [execOp, ho, resolve, invoke, builtin, hs, hx, hrun, Result.andThen]
  exact this

/-- One step of a region that draws. -/
theorem step_appB {ops : Array Oper} {o : Oper} {a : Act} {W : World} {K : Act → World → Prop} {Q : Exit → Act → World → Prop} {E : Prop} (hgd : o.guard = none) (s x : Operand)
    (ho : o.op = .call { callee := .builtin .append, args := #[s, x], argTypes := #[25, 25] }) (B : Nat) (v y : Value) (t u : List UInt8)
    (hs : a.eval s = v) (hown : W.ownsRow B 5 1 v t.length (bv t)) (hx : a.eval x = y) (hy : RdB W y u) (hlen : t.length + u.length ≤ 140737488355328) (hB : B ≤ W.heap.size)
    (h : ∀ v' w', Hid (w'.ownsRow B 5 1 v' (t ++ u).length (bv (t ++ u))) → Hid (W.grownBy w' v.ownBlock) → K (a.put o.dst v') w') : if Region.wanted o (yielded ops a.tmps) = true then Oper.wp Try.prog o a W K Q else E := by
  have hw : Region.wanted o (yielded ops a.tmps) = true := by simp [Region.wanted, hgd]
  rw [if_pos hw]
  obtain ⟨v', w', hrun, h1, h2⟩ := run_appB o.type B v y t u W hown hy hlen hB
  have := h v' w' h1 h2
  unfold Oper.wp
  simp [execOp, ho, resolve, invoke, builtin, hs, hx, hrun, Result.andThen]
  exact this

/- copy: as many bytes as the shorter has go over. -/
set_option maxRecDepth 100000 in
theorem run_cpB (o : TypeId) (W : World) (dp : Option Addr) (dLen dCap : Nat) (y : Value) (u : List UInt8) (hy : RdB W y u) (g off : Nat) (cur : List UInt8) (t : TypeId) (hg : W.heap[g]? = some (.cells (bv cur).toArray t (0, 0)))
    (hpos : 0 < min u.length dLen → dp = some ⟨g, off, none⟩) (hfit : off + min u.length dLen ≤ cur.length) :
    ∃ w', (Builtin.copy_ #[25, 25] o #[.slice dp dLen dCap, y]).run Try.prog W = .ok (goInt (min u.length dLen : Nat)) w' ∧ w'.heap[g]? = some (.cells (bv (splice cur off (u.take (min u.length dLen)))).toArray t (0, 0)) ∧ W.grownBy w' (some g) := by
  obtain ⟨a, cap, rfl, hc, hz, hr⟩ := hy
  by_cases h0 : min u.length dLen = 0
  · have hrun := run_copy_none (P := Try.prog) W 25 25 o 5 dp a dLen dCap u.length cap Try.underlying25 sizeB h0
    refine ⟨W, by rw [h0]; exact hrun, ?_, ⟨rfl, rfl, rfl, Nat.le_refl _, fun _ _ _ => rfl⟩⟩
    rw [h0]
    simpa [splice] using hg
  · rcases hr with hr | ⟨g', o', rfl, hr⟩
    · subst hr; simp at h0
    · obtain rfl := hpos (by omega)
      have hlt : (u.take (min u.length dLen)).length = min u.length dLen := by rw [List.length_take]; omega
      have hrun := run_copy_row (P := Try.prog) W 25 25 o 5 g off dLen dCap ⟨g', o', none⟩ u.length cap (bv cur).toArray t (bv (u.take (min u.length dLen))) Try.underlying25 sizeB hg (by rw [bv_length, hlt])
        (fun j v hj => by
          rw [bv_get] at hj
          cases hu : (u.take (min u.length dLen))[j]? with
          | none => rw [hu] at hj; cases hj
          | some x =>
            rw [hu] at hj; cases hj; rw [Addr.add_lit]
            have hj' : j < min u.length dLen := by
              have := (List.getElem?_eq_some_iff.1 hu).1
              omega
            exact hr j x (by rw [List.getElem?_take_of_lt hj'] at hu; exact hu))
        (by rw [bv_length, hlt]; simp [bv_length]; omega) (bv_one _)
      rw [bv_length, hlt] at hrun
      refine ⟨_, hrun, ?_, ⟨rfl, rfl, rfl, by simp, fun k _ hk => setRow_other W g k _ (fun e => hk (congrArg some e))⟩⟩
      rw [setRow_heap W g _ _ t _ hg, ← bv_splice]
      congr 2
      unfold splice
      rw [bv_length, hlt]
      simp

set_option maxRecDepth 100000 in
theorem run_cp (o : TypeId) (W : World) (dp : Option Addr) (dLen dCap : Nat) (y : Value) (u : List UInt8) (hy : RdB W y u) (g off : Nat) (cur : List UInt8) (t : TypeId) (hg : W.heap[g]? = some (.cells (bv cur).toArray t (0, 0)))
    (m : Nat) (hm : m = min u.length dLen) (hpos : 0 < m → dp = some ⟨g, off, none⟩) (hfit : off + m ≤ cur.length) :
    ∃ w', (Builtin.copy_ #[25, 25] o #[.slice dp dLen dCap, y]).run Try.prog W = .ok (.int .i64 (m : Int)) w' ∧ Hid (w'.heap[g]? = some (.cells (bv (splice cur off (u.take m))).toArray t (0, 0))) ∧ Hid (W.grownBy w' (some g)) := by
  subst hm
  exact run_cpB o W dp dLen dCap y u hy g off cur t hg hpos hfit

/-- A cut of a slice of bytes. -/
theorem RdB.cut {W : World} {a : Option Addr} {n cap : Nat} {l : List UInt8} (h : RdB W (.slice a n cap) l) (i j m : Nat) (hij : i ≤ j) (hj : j ≤ l.length) (hjm : j ≤ m) (hm : m ≤ cap) :
    ∃ a', sliced a i j m 1 = .slice a' (j - i) (m - i) ∧ RdB W (.slice a' (j - i) (m - i)) ((l.drop i).take (j - i)) ∧ (∀ g o, a = some ⟨g, o, none⟩ → i < m → a' = some ⟨g, o + i, none⟩) ∧
      (∀ g, (Value.slice a' (j - i) (m - i)).ownBlock = some g → (Value.slice a n cap).ownBlock = some g) := by
  obtain ⟨a0, c0, e, hc, hz, hr⟩ := h
  injection e with e1 e2 e3
  subst e1 e2 e3
  have hl : ((l.drop i).take (j - i)).length = j - i := by simp; omega
  unfold sliced
  by_cases c : m = i
  · rw [if_pos c]
    refine ⟨a, rfl, ⟨a, m - i, by rw [hl], by rw [hl]; omega, fun e => by have := hz e; omega, .inl (List.eq_nil_of_length_eq_zero (by rw [hl]; omega))⟩, fun g o _ hlt => by omega, fun g hg => by cases a <;> exact hg⟩
  · rw [if_neg c]
    cases a with
    | none => have := hz rfl; omega
    | some ad =>
      refine ⟨some (ad.add (i * 1)), rfl, ⟨_, m - i, by rw [hl], by rw [hl]; omega, (fun e => by cases e), ?_⟩, ?_, ?_⟩
      · rcases hr with hr | ⟨g, o, e, hr⟩
        · left; subst hr; simp
        · right
          injection e with e
          subst e
          refine ⟨g, o + i, by rw [Addr.add_lit, Nat.mul_one], fun k x hk => ?_⟩
          have hk' : k < j - i := by
            have := (List.getElem?_eq_some_iff.1 hk).1
            omega
          rw [List.getElem?_take_of_lt hk', List.getElem?_drop] at hk
          rw [Nat.add_assoc]
          exact hr (i + k) x hk
      · intro g o e _
        injection e with e
        subst e
        rw [Addr.add_lit, Nat.mul_one]
      · intro g hg
        have : (ad.add (i * 1)).block = ad.block := by unfold Addr.add; split <;> rfl
        simp only [Value.ownBlock, this] at hg ⊢
        exact hg

set_option maxRecDepth 100000 in
theorem htB : Try.prog.underlying 25 = some (.slice (Try.prog.elem 25)) := by simp [Program.elem, Try.underlying25]
set_option maxRecDepth 100000 in
theorem szB (w : World) : (sizeOf (Try.prog.elem 25)).run Try.prog w = .ok 1 w := by
  obtain ⟨i0, hi, hz0, hz1, hz2⟩ := info_parts infoB
  have he : Try.prog.elem 25 = 5 := by simp [Program.elem, Try.underlying25]
  rw [he]
  simp [sizeOf, typeInfo, hi, hz1]

/- 's[i:]', 's[:j]', 's[i:j]', 's[i:j:m]': for the walk to take as equations. -/
set_option maxRecDepth 100000 in
theorem cut_from {W : World} {a : Option Addr} {n cap : Nat} {l : List UInt8} (h : RdB W (.slice a n cap) l) (i : Nat) (hi : i ≤ l.length) :
    ∃ a', RdB W (.slice a' (n - i) (cap - i)) (l.drop i) ∧ (∀ g o, a = some ⟨g, o, none⟩ → i < cap → a' = some ⟨g, o + i, none⟩) ∧ (∀ g, (Value.slice a' (n - i) (cap - i)).ownBlock = some g → (Value.slice a n cap).ownBlock = some g) ∧
      ∀ w : World, (Instr.slice 25 (.slice a n cap) (some (.int .i64 (i : Int))) none none).run Try.prog w = .ok (.slice a' (n - i) (cap - i)) w := by
  have hn : n = l.length ∧ l.length ≤ cap := by
    obtain ⟨a0, c0, e, hc, _⟩ := h
    injection e with e1 e2 e3
    subst e3
    exact ⟨e2, hc⟩
  obtain ⟨a', h1, h2, h3, h4⟩ := h.cut i n cap (by omega) (by omega) (by omega) (Nat.le_refl _)
  rw [List.take_of_length_le (by rw [List.length_drop]; omega)] at h2
  refine ⟨a', h2, h3, h4, fun w => ?_⟩
  rw [run_slice_l (P := Try.prog) w 25 a n cap htB .i64 (i : Int) (by omega) (by omega), szB]
  simp only [Result.andThen, Int.toNat_natCast]
  rw [h1]
set_option maxRecDepth 100000 in
theorem cut_upto {W : World} {a : Option Addr} {n cap : Nat} {l : List UInt8} (h : RdB W (.slice a n cap) l) (j : Nat) (hj : j ≤ l.length) :
    ∃ a', RdB W (.slice a' j cap) (l.take j) ∧ (∀ g o, a = some ⟨g, o, none⟩ → 0 < cap → a' = some ⟨g, o, none⟩) ∧ (∀ g, (Value.slice a' j cap).ownBlock = some g → (Value.slice a n cap).ownBlock = some g) ∧
      ∀ w : World, (Instr.slice 25 (.slice a n cap) none (some (.int .i64 (j : Int))) none).run Try.prog w = .ok (.slice a' j cap) w := by
  have hn : n = l.length ∧ l.length ≤ cap := by
    obtain ⟨a0, c0, e, hc, _⟩ := h
    injection e with e1 e2 e3
    subst e3
    exact ⟨e2, hc⟩
  obtain ⟨a', h1, h2, h3, h4⟩ := h.cut 0 j cap (by omega) (by omega) (by omega) (Nat.le_refl _)
  rw [List.drop_zero] at h2
  refine ⟨a', h2, h3, h4, fun w => ?_⟩
  rw [run_slice_h (P := Try.prog) w 25 a n cap htB .i64 (j : Int) (by omega) (by omega), szB]
  simp only [Result.andThen, Int.toNat_natCast]
  rw [h1]
  rfl
set_option maxRecDepth 100000 in
theorem cut_mid {W : World} {a : Option Addr} {n cap : Nat} {l : List UInt8} (h : RdB W (.slice a n cap) l) (i j : Nat) (hij : i ≤ j) (hj : j ≤ l.length) :
    ∃ a', RdB W (.slice a' (j - i) (cap - i)) ((l.drop i).take (j - i)) ∧ (∀ g o, a = some ⟨g, o, none⟩ → i < cap → a' = some ⟨g, o + i, none⟩) ∧ (∀ g, (Value.slice a' (j - i) (cap - i)).ownBlock = some g → (Value.slice a n cap).ownBlock = some g) ∧
      ∀ w : World, (Instr.slice 25 (.slice a n cap) (some (.int .i64 (i : Int))) (some (.int .i64 (j : Int))) none).run Try.prog w = .ok (.slice a' (j - i) (cap - i)) w := by
  have hn : n = l.length ∧ l.length ≤ cap := by
    obtain ⟨a0, c0, e, hc, _⟩ := h
    injection e with e1 e2 e3
    subst e3
    exact ⟨e2, hc⟩
  obtain ⟨a', h1, h2, h3, h4⟩ := h.cut i j cap hij hj (by omega) (Nat.le_refl _)
  refine ⟨a', h2, h3, h4, fun w => ?_⟩
  rw [run_slice_lh (P := Try.prog) w 25 a n cap htB .i64 .i64 (i : Int) (j : Int) (by omega) (by omega) (by omega), szB]
  simp only [Result.andThen, Int.toNat_natCast]
  rw [h1]
set_option maxRecDepth 100000 in
theorem cut_three {W : World} {a : Option Addr} {n cap : Nat} {l : List UInt8} (h : RdB W (.slice a n cap) l) (i j : Nat) (hij : i ≤ j) (hj : j ≤ l.length) :
    ∃ a', RdB W (.slice a' (j - i) (j - i)) ((l.drop i).take (j - i)) ∧ (∀ g o, a = some ⟨g, o, none⟩ → i < j → a' = some ⟨g, o + i, none⟩) ∧ (∀ g, (Value.slice a' (j - i) (j - i)).ownBlock = some g → (Value.slice a n cap).ownBlock = some g) ∧
      ∀ w : World, (Instr.slice 25 (.slice a n cap) (some (.int .i64 (i : Int))) (some (.int .i64 (j : Int))) (some (.int .i64 (j : Int)))).run Try.prog w = .ok (.slice a' (j - i) (j - i)) w := by
  have hn : n = l.length ∧ l.length ≤ cap := by
    obtain ⟨a0, c0, e, hc, _⟩ := h
    injection e with e1 e2 e3
    subst e3
    exact ⟨e2, hc⟩
  obtain ⟨a', h1, h2, h3, h4⟩ := h.cut i j j hij hj (Nat.le_refl _) (by omega)
  refine ⟨a', h2, h3, h4, fun w => ?_⟩
  rw [run_slice_lhm (P := Try.prog) w 25 a n cap htB .i64 .i64 .i64 (i : Int) (j : Int) (j : Int) (by omega) (by omega) (by omega) (by omega), szB]
  simp only [Result.andThen, Int.toNat_natCast]
  rw [h1]

end Rg
end Go.Proofs.Ytclciccgcegpmaa
