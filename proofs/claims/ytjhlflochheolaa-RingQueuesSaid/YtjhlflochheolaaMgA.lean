/- Several texts as one. -/
import Derived.Laws.CopyOwn
import Derived.Below
import Derived.Deep.Draws
import Derived.Laws.OwnMore
import Derived.Test.YtjhlflochheolaaProg
import Derived.ProofKit
import Derived.OpenShut
import Derived.Carry
import Derived.ChangeSlices
import Derived.ChangeOld
import Derived.SizedLaws
/-
  Rings as lists: a store that is gone round, its window from a head on; what a copy in two pieces makes of it.
-/
set_option linter.unusedVariables false
set_option linter.unusedSimpArgs false
namespace Go.Proofs.Ytjhlflochheolaa
namespace Rg

/-- n places from h on, gone round. -/
def win (st : List UInt8) (h n : Nat) : List UInt8 := ((st ++ st).drop h).take n
/-- The place of the number i. -/
def pl (cap h i : Nat) : Nat := if cap ≤ h + i then h + i - cap else h + i
/-- How many of n places from s on lie ahead of the end. -/
def ahead (cap s n : Nat) : Nat := min (s + n) cap - s

theorem win_length (st : List UInt8) (h n : Nat) (hn : h + n ≤ 2 * st.length) : (win st h n).length = n := by
  unfold win
  simp
  omega
theorem win_get (st : List UInt8) (h n i : Nat) (hi : i < n) (hh : h < st.length) (hn : n ≤ st.length) : (win st h n)[i]? = st[pl st.length h i]? := by
  unfold win pl
  rw [List.getElem?_take_of_lt hi, List.getElem?_drop, List.getElem?_append]
  by_cases c : st.length ≤ h + i
  · rw [if_neg (by omega), if_pos c]
  · rw [if_pos (by omega), if_neg c]
theorem win_zero (st : List UInt8) (h : Nat) : win st h 0 = [] := rfl

theorem pl_lt (cap h i : Nat) (hh : h < cap) (hi : i ≤ cap) : pl cap h i < cap := by
  unfold pl
  split <;> omega
theorem pl_zero (cap h : Nat) (hh : h < cap) : pl cap h 0 = h := by
  unfold pl
  split <;> omega
theorem pl_mod (cap h i : Nat) (hh : h < cap) (hi : i ≤ cap) : pl cap h i = (h + i) % cap := by
  unfold pl
  split
  · rw [Nat.mod_eq_sub_mod (by omega), Nat.mod_eq_of_lt (by omega)]
  · rw [Nat.mod_eq_of_lt (by omega)]
theorem pl_pl (cap h f i : Nat) (hh : h < cap) (hi : f + i ≤ cap) : pl cap (pl cap h f) i = pl cap h (f + i) := by
  unfold pl
  split <;> split <;> split <;> omega

/-- A part of a window is a window. -/
theorem win_part (st : List UInt8) (h n f m : Nat) (hh : h < st.length) (hn : n ≤ st.length) (hm : f + m ≤ n) : ((win st h n).drop f).take m = win st (pl st.length h f) m := by
  have hp := pl_lt st.length h f hh (by omega)
  apply List.ext_getElem?
  intro i
  by_cases hi : i < m
  · rw [List.getElem?_take_of_lt hi, List.getElem?_drop, win_get st h n (f + i) (by omega) hh hn, win_get st _ m i hi hp (by omega), pl_pl _ _ _ _ hh (by omega)]
  · rw [List.getElem?_eq_none (by simp; omega), List.getElem?_eq_none (by rw [win_length _ _ _ (by omega)]; omega)]
theorem win_drop (st : List UInt8) (h n f : Nat) (hh : h < st.length) (hn : n ≤ st.length) (hf : f ≤ n) : (win st h n).drop f = win st (pl st.length h f) (n - f) := by
  have := win_part st h n f (n - f) hh hn (by omega)
  rw [← this, List.take_of_length_le]
  rw [List.length_drop, win_length _ _ _ (by omega)]
  omega
theorem win_take (st : List UInt8) (h n m : Nat) (hh : h < st.length) (hn : n ≤ st.length) (hm : m ≤ n) : (win st h n).take m = win st h m := by
  have := win_part st h n 0 m hh hn (by omega)
  rw [List.drop_zero, pl_zero _ _ hh] at this
  exact this

theorem ahead_le (cap s n : Nat) (hs : s < cap) : ahead cap s n ≤ n := by unfold ahead; omega
theorem ahead_fit (cap s n : Nat) (hs : s < cap) : s + ahead cap s n ≤ cap := by unfold ahead; omega
theorem ahead_rest (cap s n : Nat) (hs : s < cap) (hn : n ≤ cap) : n - ahead cap s n ≤ s := by unfold ahead; omega

/-- A window is two pieces of the store. -/
theorem win_pieces (st : List UInt8) (s n : Nat) (hs : s < st.length) (hn : n ≤ st.length) : win st s n = (st.drop s).take (ahead st.length s n) ++ st.take (n - ahead st.length s n) := by
  apply List.ext_getElem?
  intro i
  have hl : ((st.drop s).take (ahead st.length s n)).length = ahead st.length s n := by
    have := ahead_fit st.length s n hs
    simp
    omega
  by_cases hi : i < n
  · rw [win_get st s n i hi hs hn, List.getElem?_append, hl]
    by_cases c : i < ahead st.length s n
    · rw [if_pos c, List.getElem?_take_of_lt c, List.getElem?_drop]
      unfold pl ahead at *
      rw [if_neg (by omega)]
    · rw [if_neg c, List.getElem?_take_of_lt (by omega)]
      unfold pl ahead at *
      rw [if_pos (by omega)]
      congr 1
      omega
  · rw [List.getElem?_eq_none (by rw [win_length _ _ _ (by omega)]; omega), List.getElem?_eq_none]
    rw [List.length_append, hl, List.length_take]
    have := ahead_le st.length s n hs
    omega

theorem splice_get {α : Type} (L : List α) (off : Nat) (cs : List α) (h : off + cs.length ≤ L.length) (i : Nat) : (splice L off cs)[i]? = if i < off then L[i]? else if i < off + cs.length then cs[i - off]? else L[i]? := by
  unfold splice
  have hl : (L.take off).length = off := by simp; omega
  rw [List.getElem?_append, hl]
  by_cases c : i < off
  · rw [if_pos c, if_pos c, List.getElem?_take_of_lt c]
  · rw [if_neg c, if_neg c, List.getElem?_append]
    by_cases c2 : i < off + cs.length
    · rw [if_pos (by omega), if_pos c2]
    · rw [if_neg (by omega), if_neg c2, List.getElem?_drop]
      congr 1
      omega
theorem splice_map {α β : Type} (f : α → β) (L : List α) (off : Nat) (cs : List α) : splice (L.map f) off (cs.map f) = (splice L off cs).map f := by
  unfold splice
  simp

/-- What was put in two pieces stands behind what waited. -/
theorem win_put (st : List UInt8) (h c : Nat) (p1 p2 : List UInt8) (hh : h < st.length) (hc : c + (p1.length + p2.length) ≤ st.length) (h1 : p1.length = ahead st.length (pl st.length h c) (p1.length + p2.length)) :
    win (splice (splice st (pl st.length h c) p1) 0 p2) h (c + (p1.length + p2.length)) = win st h c ++ (p1 ++ p2) := by
  have hs := pl_lt st.length h c hh (by omega)
  have hf := ahead_fit st.length (pl st.length h c) (p1.length + p2.length) hs
  have hr := ahead_rest st.length (pl st.length h c) (p1.length + p2.length) hs (by omega)
  rw [← h1] at hf hr
  have l1 : (splice st (pl st.length h c) p1).length = st.length := length_splice _ _ _ hf
  have l2 : (splice (splice st (pl st.length h c) p1) 0 p2).length = st.length := by rw [length_splice _ _ _ (by rw [l1]; omega), l1]
  apply List.ext_getElem?
  intro i
  have lw : (win st h c).length = c := win_length _ _ _ (by omega)
  by_cases hi : i < c + (p1.length + p2.length)
  · rw [win_get _ h _ i hi (by rw [l2]; exact hh) (by rw [l2]; omega), l2, splice_get _ _ _ (by rw [l1]; omega), splice_get _ _ _ hf, List.getElem?_append, lw, if_neg (by omega)]
    have ei : pl st.length h i = if st.length ≤ h + i then h + i - st.length else h + i := rfl
    have ec : pl st.length h c = if st.length ≤ h + c then h + c - st.length else h + c := rfl
    have ea : ahead st.length (pl st.length h c) (p1.length + p2.length) = min (pl st.length h c + (p1.length + p2.length)) st.length - pl st.length h c := rfl
    rw [ea] at h1
    by_cases ci : i < c
    · rw [if_pos ci, win_get _ h c i ci hh (by omega)]
      rw [if_neg (by split at ei <;> split at ec <;> omega)]
      by_cases c3 : pl st.length h i < pl st.length h c
      · rw [if_pos c3]
      · rw [if_neg c3, if_neg (by split at ei <;> split at ec <;> omega)]
    · rw [if_neg ci, List.getElem?_append]
      by_cases c2 : i - c < p1.length
      · rw [if_pos c2]
        rw [if_neg (by split at ei <;> split at ec <;> omega), if_neg (by split at ei <;> split at ec <;> omega), if_pos (by split at ei <;> split at ec <;> omega)]
        congr 1
        split at ei <;> split at ec <;> omega
      · rw [if_neg c2, if_pos (by split at ei <;> split at ec <;> omega)]
        congr 1
        split at ei <;> split at ec <;> omega
  · rw [List.getElem?_eq_none (by rw [win_length _ _ _ (by rw [l2]; omega)]; omega), List.getElem?_eq_none]
    rw [List.length_append, List.length_append, lw]
    omega

/-- Two copies fill a new row. -/
theorem fill_two (n k : Nat) (p1 p2 : List UInt8) (h1 : p1.length = k) (h2 : k + p2.length = n) : splice (splice (List.replicate n 0) 0 p1) k p2 = p1 ++ p2 := by
  have l0 : (List.replicate n (0 : UInt8)).length = n := by simp
  have l1 : (splice (List.replicate n (0 : UInt8)) 0 p1).length = n := by rw [length_splice _ _ _ (by rw [l0]; omega), l0]
  apply List.ext_getElem?
  intro i
  rw [splice_get _ _ _ (by rw [l1]; omega), splice_get _ _ _ (by rw [l0]; omega), List.getElem?_append]
  by_cases c : i < k
  · rw [if_pos c, if_neg (by omega), if_pos (by omega), if_pos (by omega), Nat.sub_zero]
  · rw [if_neg c, if_neg (show ¬ i < p1.length by omega)]
    by_cases c2 : i < k + p2.length
    · rw [if_pos c2, h1]
    · rw [if_neg c2, if_neg (by omega), if_neg (by omega), List.getElem?_eq_none (by rw [l0]; omega), List.getElem?_eq_none (by omega)]

/-- A list's bytes as cells. -/
def bv (l : List UInt8) : List Value := l.map fun x => Value.int .u8 (x.toNat : Int)
theorem bv_length (l : List UInt8) : (bv l).length = l.length := by unfold bv; simp
theorem bv_get (l : List UInt8) (i : Nat) : (bv l)[i]? = (l[i]?).map fun x => Value.int .u8 (x.toNat : Int) := by unfold bv; simp
theorem bv_append (a b : List UInt8) : bv (a ++ b) = bv a ++ bv b := by unfold bv; simp
theorem bv_one (l : List UInt8) : ∀ v ∈ bv l, v.oneCell' = true := by
  intro v hv
  unfold bv at hv
  obtain ⟨x, _, rfl⟩ := List.mem_map.1 hv
  rfl
theorem bv_splice (L : List UInt8) (off : Nat) (cs : List UInt8) : splice (bv L) off (bv cs) = bv (splice L off cs) := splice_map _ L off cs

end Rg
end Go.Proofs.Ytjhlflochheolaa

/-
  Worlds that are as they were but for some blocks; slices of bytes, wherever they lie; a ring in memory.
-/
set_option linter.unusedVariables false
set_option linter.unusedSimpArgs false
namespace Go.Proofs.Ytjhlflochheolaa
open Go.RowKit
namespace Rg

/-- Of what was there nothing has turned but the blocks bs. -/
structure But (bs : List Nat) (w w' : World) : Prop where
  os : w'.os = w.os
  tape : w'.tape = w.tape
  output : w'.output = w.output
  size : w.heap.size ≤ w'.heap.size
  block : ∀ k, k < w.heap.size → k ∉ bs → w'.heap[k]? = w.heap[k]?
theorem But.refl (bs : List Nat) (w : World) : But bs w w := ⟨rfl, rfl, rfl, Nat.le_refl _, fun _ _ _ => rfl⟩
theorem But.trans {bs : List Nat} {a b c : World} (h : But bs a b) (k : But bs b c) : But bs a c :=
  ⟨k.os.trans h.os, k.tape.trans h.tape, k.output.trans h.output, Nat.le_trans h.size k.size, fun i hi hn => (k.block i (Nat.lt_of_lt_of_le hi h.size) hn).trans (h.block i hi hn)⟩
theorem But.mono {bs cs : List Nat} {a b : World} (h : But bs a b) (hs : ∀ x, x ∈ bs → x ∈ cs) : But cs a b := ⟨h.os, h.tape, h.output, h.size, fun i hi hn => h.block i hi (fun e => hn (hs i e))⟩
theorem But.nil {cs : List Nat} {a b : World} (h : But [] a b) : But cs a b := h.mono (fun _ e => by cases e)
theorem But.of_below {w w' : World} (h : Below w.heap.size w w') : But [] w w' := ⟨h.os, h.tape, h.output, h.size, fun k hk _ => h.block k hk⟩
theorem But.to_below {w w' : World} (h : But [] w w') : Below w.heap.size w w' := ⟨h.os, h.tape, h.output, h.size, fun k hk => h.block k hk (fun e => by cases e)⟩
theorem But.below {bs : List Nat} {w w' : World} {B : Nat} (h : But bs w w') (hB : B ≤ w.heap.size) (hb : ∀ x, x ∈ bs → B ≤ x) : Below B w w' :=
  ⟨h.os, h.tape, h.output, h.size, fun k hk => h.block k (by omega) (fun e => by have := hb k e; omega)⟩
theorem But.alloc {bs : List Nat} {a w : World} (h : But bs a w) (o : Obj) : But bs a (w.alloc o) := h.trans ⟨rfl, rfl, rfl, by simp, fun k hk _ => Below.heap_alloc _ _ _ hk⟩
theorem But.setCell {bs : List Nat} {a w : World} (h : But bs a w) {p : Addr} (hp : p.block ∈ bs) (u : Value) : But bs a (w.setCell p u) :=
  h.trans ⟨rfl, rfl, rfl, by simp [World.setCell], fun k hk hn => Below.heap_setCell _ _ _ _ (fun e => hn (e ▸ hp))⟩
theorem But.setRow {bs : List Nat} {a w : World} (h : But bs a w) {g : Nat} (hp : g ∈ bs) (cs : Array Value) : But bs a (w.setRow g cs) :=
  h.trans ⟨rfl, rfl, rfl, by simp [World.setRow], fun k hk hn => setRow_other w g k cs (fun e => hn (e ▸ hp))⟩
theorem But.drew {bs : List Nat} {a w : World} (h : But bs a w) : But bs a w.drew := ⟨h.os, h.tape, h.output, h.size, h.block⟩
theorem But.drewN {bs : List Nat} {a w : World} (h : But bs a w) (q : Nat) : But bs a (w.drewN q) := by
  induction q with
  | zero => exact h
  | succ q ih => exact ih.drew
theorem But.grown {bs : List Nat} {a w w' : World} {row : Option Nat} (h : But bs a w) (hg : w.grownBy w' row) (hr : ∀ k, row = some k → k ∈ bs) : But bs a w' :=
  h.trans ⟨hg.os, hg.tape, hg.output, hg.size, fun k hk hn => hg.block k hk (fun e => hn (hr k e.symm))⟩
theorem But.cell {bs : List Nat} {w w' : World} (h : But bs w w') {p : Addr} {v : Value} (hc : w.cell? p = some v) (hn : p.block ∉ bs) : w'.cell? p = some v := by
  rw [World.cell?_of_block (w := w) (h.block p.block (World.block_lt_of_cell? w _ hc) hn)]
  exact hc
theorem But.heap {bs : List Nat} {w w' : World} (h : But bs w w') {b : Nat} {o : Obj} (hc : w.heap[b]? = some o) (hn : b ∉ bs) : w'.heap[b]? = some o := by
  rw [h.block b (Array.getElem?_eq_some_iff.1 hc).1 hn]
  exact hc
theorem But.owns {bs : List Nat} {w w' : World} (h : But bs w w') {B T S n : Nat} {v : Value} {xs : List Value} (ho : w.ownsRow B T S v n xs) (hn : ∀ g, v.ownBlock = some g → g ∉ bs) : w'.ownsRow B T S v n xs := by
  refine ⟨ho.1, ?_⟩
  rcases ho.2 with hz | ⟨g, cap, cur, rfl, hb, hg, rest⟩
  · exact .inl hz
  · exact .inr ⟨g, cap, cur, rfl, hb, h.heap hg (hn g rfl), rest⟩

theorem bel_drewN {B : Nat} {a w : World} (h : Below B a w) (q : Nat) : Below B a (w.drewN q) := by
  induction q with
  | zero => exact h
  | succ q ih => exact ih.drew
theorem bel_trans {a b c : World} (h : Below a.heap.size a b) (k : Below b.heap.size b c) : Below a.heap.size a c := h.trans (k.mono h.size)

/-- The value is a slice of these bytes. -/
def RdB (w : World) (v : Value) (l : List UInt8) : Prop :=
  ∃ a cap, v = .slice a l.length cap ∧ l.length ≤ cap ∧ (a = none → cap = 0) ∧ (l = [] ∨ ∃ g o, a = some ⟨g, o, none⟩ ∧ ∀ j x, l[j]? = some x → w.cell? ⟨g, o + j, none⟩ = some (.int .u8 (x.toNat : Int)))
theorem RdB.nil (w : World) : RdB w (.slice none 0 0) [] := ⟨none, 0, rfl, Nat.le_refl _, fun _ => rfl, .inl rfl⟩
theorem RdB.but {bs : List Nat} {w w' : World} {v : Value} {l : List UInt8} (h : RdB w v l) (b : But bs w w') (hn : ∀ g, v.ownBlock = some g → g ∉ bs) : RdB w' v l := by
  obtain ⟨a, cap, rfl, hc, hz, h⟩ := h
  refine ⟨a, cap, rfl, hc, hz, ?_⟩
  rcases h with h | ⟨g, o, rfl, h⟩
  · exact .inl h
  · exact .inr ⟨g, o, rfl, fun j x hj => b.cell (h j x hj) (hn g rfl)⟩
theorem RdB.below {w w' : World} {v : Value} {l : List UInt8} (h : RdB w v l) (b : Below w.heap.size w w') : RdB w' v l := h.but (But.of_below b) (fun _ _ e => by cases e)
/-- A row of the call's own is read. -/
theorem RdB.own {w : World} {B T : Nat} {v : Value} {l : List UInt8} (h : w.ownsRow B T 1 v l.length (bv l)) : RdB w v l := by
  rcases h.2 with ⟨rfl, hn⟩ | ⟨g, cap, cur, rfl, hb, hg, hc, hm, hs, ht⟩
  · obtain rfl : l = [] := List.eq_nil_of_length_eq_zero hn
    exact RdB.nil w
  · refine ⟨_, cap, rfl, hc, (fun e => by cases e), .inr ⟨g, 0, rfl, fun j x hj => ?_⟩⟩
    have := World.ownsRow.cells h (g := g) rfl j _ (by rw [bv_get, hj]; rfl)
    rw [Addr.add_lit] at this
    exact this
theorem owns_len {w : World} {B T : Nat} {v : Value} {n : Nat} {l : List UInt8} (h : w.ownsRow B T 1 v n (bv l)) : n = l.length := by
  have := h.1
  rw [bv_length] at this
  omega
theorem RdB.ofOwn {w : World} {B T n : Nat} {v : Value} {l : List UInt8} (h : w.ownsRow B T 1 v n (bv l)) : RdB w v l := by
  have hn := owns_len h
  subst hn
  exact RdB.own h
theorem owns_fresh {w : World} {B T S n : Nat} {v : Value} {xs : List Value} (h : w.ownsRow B T S v n xs) : ∀ g, v.ownBlock = some g → B ≤ g := fun g hg => (World.ownsRow.lt h g hg).1

/-- A ring in memory: its two blocks, its places, its head, what waits. -/
structure IsRing (w : World) (rp sb cap head : Nat) (xs : List UInt8) : Prop where
  str : w.heap[rp]? = some (.cells #[.slice (some ⟨sb, 0, none⟩) cap cap, .int .i64 (head : Int), .int .i64 (xs.length : Int)] 85 (0, 0))
  store : ∃ st : List UInt8, st.length = cap ∧ w.heap[sb]? = some (.cells (bv st).toArray 5 (0, 0)) ∧ win st head xs.length = xs
  ne : rp ≠ sb
  hhead : head < cap
  hlen : xs.length ≤ cap
  hcap : cap ≤ 1048576
theorem IsRing.but {bs : List Nat} {w w' : World} {rp sb cap head : Nat} {xs : List UInt8} (h : IsRing w rp sb cap head xs) (b : But bs w w') (h1 : rp ∉ bs) (h2 : sb ∉ bs) : IsRing w' rp sb cap head xs := by
  obtain ⟨st, hl, hs, hw⟩ := h.store
  exact ⟨b.heap h.str h1, ⟨st, hl, b.heap hs h2, hw⟩, h.ne, h.hhead, h.hlen, h.hcap⟩
theorem IsRing.below {w w' : World} {rp sb cap head : Nat} {xs : List UInt8} (h : IsRing w rp sb cap head xs) (b : Below w.heap.size w w') : IsRing w' rp sb cap head xs := h.but (But.of_below b) (fun e => by cases e) (fun e => by cases e)
theorem IsRing.lt1 {w : World} {rp sb cap head : Nat} {xs : List UInt8} (h : IsRing w rp sb cap head xs) : rp < w.heap.size := (Array.getElem?_eq_some_iff.1 h.str).1
theorem IsRing.lt2 {w : World} {rp sb cap head : Nat} {xs : List UInt8} (h : IsRing w rp sb cap head xs) : sb < w.heap.size := by
  obtain ⟨st, _, hs, _⟩ := h.store
  exact (Array.getElem?_eq_some_iff.1 hs).1
theorem IsRing.cells {w : World} {rp sb cap head : Nat} {xs : List UInt8} (h : IsRing w rp sb cap head xs) :
    w.cell? ⟨rp, 0, none⟩ = some (.slice (some ⟨sb, 0, none⟩) cap cap) ∧ w.cell? ⟨rp, 1, none⟩ = some (.int .i64 (head : Int)) ∧ w.cell? ⟨rp, 2, none⟩ = some (.int .i64 (xs.length : Int)) ∧ ∀ i, w.frozen? ⟨rp, i, none⟩ = false := by
  refine ⟨?_, ?_, ?_, fun i => frozen_of_row w rp i _ _ h.str⟩ <;> rw [cell_of_row w rp _ _ _ _ h.str] <;> rfl

end Rg
end Go.Proofs.Ytjhlflochheolaa

/-
  Arguments that came in: slices of bytes and of numbers; that they read as they did.
-/
set_option linter.unusedVariables false
set_option linter.unusedSimpArgs false
namespace Go.Proofs.Ytjhlflochheolaa
open Go.RowKit Go.ChangeShapes Go.WideShapes Go.ChangeAt
namespace Rg

/-- The value is a slice of these numbers. -/
def RdI (w : World) (v : Value) (l : List Int) : Prop :=
  ∃ a cap, v = .slice a l.length cap ∧ l.length ≤ cap ∧ (a = none → cap = 0) ∧ (∀ x ∈ l, -9223372036854775808 ≤ x ∧ x ≤ 9223372036854775807) ∧ (l = [] ∨ ∃ g o, a = some ⟨g, o, none⟩ ∧ ∀ j x, l[j]? = some x → w.cell? ⟨g, o + j, none⟩ = some (.int .i64 x))

theorem laidOut : laidOutB Try.prog = true := by kernel_rfl
theorem cellsB : Try.prog.cellsOf 5 = 1 := by kernel_rfl
theorem bytesB : Try.prog.bytesOf 5 = 1 := by kernel_rfl
theorem cellsI : Try.prog.cellsOf 3 = 1 := by kernel_rfl
theorem bytesI : Try.prog.bytesOf 3 = 8 := by kernel_rfl

theorem byte_wf {x : Int} (h : (Lit.int .u8 x).wf = true) : 0 ≤ x ∧ x < 256 := by
  have h1 : IntKind.u8.min = 0 := rfl
  have h2 : IntKind.u8.max = 255 := rfl
  simp only [Lit.wf, Bool.and_eq_true, decide_eq_true_eq] at h
  omega
theorem int_wf {x : Int} (h : (Lit.int .i64 x).wf = true) : -9223372036854775808 ≤ x ∧ x ≤ 9223372036854775807 := by
  have h1 : IntKind.i64.min = -9223372036854775808 := rfl
  have h2 : IntKind.i64.max = 9223372036854775807 := rfl
  simp only [Lit.wf, Bool.and_eq_true, decide_eq_true_eq] at h
  omega

/- A slice of bytes, opened. -/
set_option maxRecDepth 100000 in
theorem opened_b {H : Type} {enc : TypeId × Value → H} {W : World} {v : Value} {d : DataW H} {p : List MemPlace} {base : Nat} (hok : Value.okWide Try.prog W .any base 25 v)
    (h0 : DataW.Trod enc Try.prog W 0 (fun _ => true) true 25 v d p) :
    ∃ l : List UInt8, RdB W v l ∧ (d = .nil ∧ l = [] ∨ ∃ es sp, d = .slice es sp ∧ es.length = l.length) := by
  obtain ⟨a0, len, cap, rfl⟩ := okWide_slice Try.underlying25 hok
  obtain ⟨fuel, hf⟩ := h0
  rcases open_ints Try.underlying25 Try.underlying5 cellsB hf with ⟨hcs, hx⟩ | ⟨a, len', cap', zs, hcs, _, hl, hm, hz, hx, hcell, hwz⟩
  · simp [Value.cells] at hcs
    obtain ⟨rfl, rfl, rfl⟩ := hcs
    simp only [Prod.mk.injEq] at hx
    obtain ⟨rfl, rfl⟩ := hx
    exact ⟨[], RdB.nil _, .inl ⟨rfl, rfl⟩⟩
  · simp [Value.cells] at hcs
    obtain ⟨rfl, rfl, rfl⟩ := hcs
    simp only [Prod.mk.injEq] at hx
    obtain ⟨rfl, rfl⟩ := hx
    simp only [if_true] at hz
    have hlen : ((zs.take len).map fun z => UInt8.ofNat z.toNat).length = len := by simp; omega
    refine ⟨(zs.take len).map fun z => UInt8.ofNat z.toNat, ⟨some a, cap, by rw [hlen], by omega, (fun e => by cases e), ?_⟩, .inr ⟨_, _, rfl, by rw [hlen]; simp [lits]; omega⟩⟩
    by_cases c : len = 0
    · left
      exact List.eq_nil_of_length_eq_zero (by omega)
    · right
      obtain ⟨b, off, rfl, hc2⟩ := ints_at hcell (by omega)
      refine ⟨b, off, rfl, fun j x hj => ?_⟩
      have hjl : j < len := by
        have := (List.getElem?_eq_some_iff.1 hj).1
        omega
      rw [hc2 j (by omega)]
      rw [List.getElem?_map, List.getElem?_take_of_lt hjl, List.getElem?_eq_getElem (by omega)] at hj
      have hb := byte_wf (hwz _ (List.getElem_mem (show j < zs.length by omega)))
      simp only [Option.map_some, Option.some.injEq] at hj
      subst hj
      simp only [List.getD, List.getElem?_eq_getElem (show j < zs.length by omega), Option.getD_some]
      congr 2
      simp only [UInt8.toNat_ofNat']
      omega

/- A slice of numbers, opened. -/
set_option maxRecDepth 100000 in
theorem opened_i {H : Type} {enc : TypeId × Value → H} {W : World} {v : Value} {d : DataW H} {p : List MemPlace} {base : Nat} (hok : Value.okWide Try.prog W .any base 59 v)
    (h0 : DataW.Trod enc Try.prog W 0 (fun _ => true) true 59 v d p) :
    ∃ l : List Int, RdI W v l ∧ (d = .nil ∧ l = [] ∨ ∃ es sp, d = .slice es sp ∧ es.length = l.length) := by
  obtain ⟨a0, len, cap, rfl⟩ := okWide_slice Try.underlying59 hok
  obtain ⟨fuel, hf⟩ := h0
  rcases open_ints Try.underlying59 Try.underlying3 cellsI hf with ⟨hcs, hx⟩ | ⟨a, len', cap', zs, hcs, _, hl, hm, hz, hx, hcell, hwz⟩
  · simp [Value.cells] at hcs
    obtain ⟨rfl, rfl, rfl⟩ := hcs
    simp only [Prod.mk.injEq] at hx
    obtain ⟨rfl, rfl⟩ := hx
    exact ⟨[], ⟨none, 0, rfl, Nat.le_refl _, fun _ => rfl, (fun _ h => by cases h), .inl rfl⟩, .inl ⟨rfl, rfl⟩⟩
  · simp [Value.cells] at hcs
    obtain ⟨rfl, rfl, rfl⟩ := hcs
    simp only [Prod.mk.injEq] at hx
    obtain ⟨rfl, rfl⟩ := hx
    simp only [if_true] at hz
    have hlen : (zs.take len).length = len := by simp; omega
    refine ⟨zs.take len, ⟨some a, cap, by rw [hlen], by omega, (fun e => by cases e), (fun x hx => int_wf (hwz x (List.mem_of_mem_take hx))), ?_⟩, .inr ⟨_, _, rfl, by rw [hlen]; simp [lits]; omega⟩⟩
    by_cases c : len = 0
    · left
      exact List.eq_nil_of_length_eq_zero (by omega)
    · right
      obtain ⟨b, off, rfl, hc2⟩ := ints_at hcell (by omega)
      refine ⟨b, off, rfl, fun j x hj => ?_⟩
      have hjl : j < len := by
        have := (List.getElem?_eq_some_iff.1 hj).1
        omega
      rw [hc2 j (by omega)]
      rw [List.getElem?_take_of_lt hjl, List.getElem?_eq_getElem (by omega)] at hj
      simp only [Option.some.injEq] at hj
      subst hj
      simp only [List.getD, List.getElem?_eq_getElem (show j < zs.length by omega), Option.getD_some]

/- All arguments read as they did. -/
set_option maxRecDepth 100000 in
theorem all_stay {H : Type} {enc : TypeId × Value → H} {W W' : World} (hb : Below W.heap.size W W') : ∀ {ts : List TypeId} {vs : List Value} {ds : List (DataW H)} {ps : List MemPlace},
    (∀ t ∈ ts, Try.prog.readableRec t = true ∧ t < Try.prog.types.size) → DataW.TrodAll enc Try.prog W 0 (fun _ => true) true ts vs ds ps → DataW.TrodAll enc Try.prog W' 0 (fun b => decide (b < W.heap.size)) true ts vs ds ps := by
  intro ts
  induction ts with
  | nil =>
    intro vs ds ps _ h
    obtain ⟨rfl, rfl, rfl⟩ := trodAll_nil h
    exact trodAll_mk0
  | cons t ts ih =>
    intro vs ds ps ht h
    have hlt := h.lt
    obtain ⟨v, vs', d, ds', p, q, rfl, rfl, rfl, h0, hr⟩ := trodAll_cons h
    exact trodAll_cons_mk (Below.trod laidOut (ht t (by simp)).1 (ht t (by simp)).2 h0 hb (fun x hx => hlt x (List.mem_append_left _ hx))) (ih (fun t' h' => ht t' (List.mem_cons_of_mem _ h')) hr)

end Rg
end Go.Proofs.Ytjhlflochheolaa
