/-
  Rings as lists: a store that is gone round, its window from a head on; what a copy in two pieces makes of it.
-/
import Derived.Laws.CopyOwn
set_option linter.unusedVariables false
set_option linter.unusedSimpArgs false
namespace Go.Proofs.Ytiecfidkoficnaa
namespace Rg

/-- n places from h on, gone round. -/
def win (st : List UInt8) (h n : Nat) : List UInt8 := ((st ++ st).drop h).take n
/-- The place of the number i. -/
def pl (cap h i : Nat) : Nat := if cap ≤ h + i then h + i - cap else h + i
/-- How many of n places from s on lie ahead of the end. -/
def ahead (cap s n : Nat) : Nat := min (s + n) cap - s

theorem win_length (st : List UInt8) (h n : Nat) (hn : h + n ≤ 2 * st.length) : (win st h n).length = n := by
  unfold win
  simp
  omega
theorem win_get (st : List UInt8) (h n i : Nat) (hi : i < n) (hh : h < st.length) (hn : n ≤ st.length) : (win st h n)[i]? = st[pl st.length h i]? := by
  unfold win pl
  rw [List.getElem?_take_of_lt hi, List.getElem?_drop, List.getElem?_append]
  by_cases c : st.length ≤ h + i
  · rw [if_neg (by omega), if_pos c]
  · rw [if_pos (by omega), if_neg c]
theorem win_zero (st : List UInt8) (h : Nat) : win st h 0 = [] := rfl

theorem pl_lt (cap h i : Nat) (hh : h < cap) (hi : i ≤ cap) : pl cap h i < cap := by
  unfold pl
  split <;> omega
theorem pl_zero (cap h : Nat) (hh : h < cap) : pl cap h 0 = h := by
  unfold pl
  split <;> omega
theorem pl_mod (cap h i : Nat) (hh : h < cap) (hi : i ≤ cap) : pl cap h i = (h + i) % cap := by
  unfold pl
  split
  · rw [Nat.mod_eq_sub_mod (by omega), Nat.mod_eq_of_lt (by omega)]
  · rw [Nat.mod_eq_of_lt (by omega)]
theorem pl_pl (cap h f i : Nat) (hh : h < cap) (hi : f + i ≤ cap) : pl cap (pl cap h f) i = pl cap h (f + i) := by
  unfold pl
  split <;> split <;> split <;> omega

/-- A part of a window is a window. -/
theorem win_part (st : List UInt8) (h n f m : Nat) (hh : h < st.length) (hn : n ≤ st.length) (hm : f + m ≤ n) : ((win st h n).drop f).take m = win st (pl st.length h f) m := by
  have hp := pl_lt st.length h f hh (by omega)
  apply List.ext_getElem?
  intro i
  by_cases hi : i < m
  · rw [List.getElem?_take_of_lt hi, List.getElem?_drop, win_get st h n (f + i) (by omega) hh hn, win_get st _ m i hi hp (by omega), pl_pl _ _ _ _ hh (by omega)]
  · rw [List.getElem?_eq_none (by simp; omega), List.getElem?_eq_none (by rw [win_length _ _ _ (by omega)]; omega)]
theorem win_drop (st : List UInt8) (h n f : Nat) (hh : h < st.length) (hn : n ≤ st.length) (hf : f ≤ n) : (win st h n).drop f = win st (pl st.length h f) (n - f) := by
  have := win_part st h n f (n - f) hh hn (by omega)
  rw [← this, List.take_of_length_le]
  rw [List.length_drop, win_length _ _ _ (by omega)]
  omega
theorem win_take (st : List UInt8) (h n m : Nat) (hh : h < st.length) (hn : n ≤ st.length) (hm : m ≤ n) : (win st h n).take m = win st h m := by
  have := win_part st h n 0 m hh hn (by omega)
  rw [List.drop_zero, pl_zero _ _ hh] at this
  exact this

theorem ahead_le (cap s n : Nat) (hs : s < cap) : ahead cap s n ≤ n := by unfold ahead; omega
theorem ahead_fit (cap s n : Nat) (hs : s < cap) : s + ahead cap s n ≤ cap := by unfold ahead; omega
theorem ahead_rest (cap s n : Nat) (hs : s < cap) (hn : n ≤ cap) : n - ahead cap s n ≤ s := by unfold ahead; omega

/-- A window is two pieces of the store. -/
theorem win_pieces (st : List UInt8) (s n : Nat) (hs : s < st.length) (hn : n ≤ st.length) : win st s n = (st.drop s).take (ahead st.length s n) ++ st.take (n - ahead st.length s n) := by
  apply List.ext_getElem?
  intro i
  have hl : ((st.drop s).take (ahead st.length s n)).length = ahead st.length s n := by
    have := ahead_fit st.length s n hs
    simp
    omega
  by_cases hi : i < n
  · rw [win_get st s n i hi hs hn, List.getElem?_append, hl]
    by_cases c : i < ahead st.length s n
    · rw [if_pos c, List.getElem?_take_of_lt c, List.getElem?_drop]
      unfold pl ahead at *
      rw [if_neg (by omega)]
    · rw [if_neg c, List.getElem?_take_of_lt (by omega)]
      unfold pl ahead at *
      rw [if_pos (by omega)]
      congr 1
      omega
  · rw [List.getElem?_eq_none (by rw [win_length _ _ _ (by omega)]; omega), List.getElem?_eq_none]
    rw [List.length_append, hl, List.length_take]
    have := ahead_le st.length s n hs
    omega

theorem splice_get {α : Type} (L : List α) (off : Nat) (cs : List α) (h : off + cs.length ≤ L.length) (i : Nat) : (splice L off cs)[i]? = if i < off then L[i]? else if i < off + cs.length then cs[i - off]? else L[i]? := by
  unfold splice
  have hl : (L.take off).length = off := by simp; omega
  rw [List.getElem?_append, hl]
  by_cases c : i < off
  · rw [if_pos c, if_pos c, List.getElem?_take_of_lt c]
  · rw [if_neg c, if_neg c, List.getElem?_append]
    by_cases c2 : i < off + cs.length
    · rw [if_pos (by omega), if_pos c2]
    · rw [if_neg (by omega), if_neg c2, List.getElem?_drop]
      congr 1
      omega
theorem splice_map {α β : Type} (f : α → β) (L : List α) (off : Nat) (cs : List α) : splice (L.map f) off (cs.map f) = (splice L off cs).map f := by
  unfold splice
  simp

/-- What was put in two pieces stands behind what waited. -/
theorem win_put (st : List UInt8) (h c : Nat) (p1 p2 : List UInt8) (hh : h < st.length) (hc : c + (p1.length + p2.length) ≤ st.length) (h1 : p1.length = ahead st.length (pl st.length h c) (p1.length + p2.length)) :
    win (splice (splice st (pl st.length h c) p1) 0 p2) h (c + (p1.length + p2.length)) = win st h c ++ (p1 ++ p2) := by
  have hs := pl_lt st.length h c hh (by omega)
  have hf := ahead_fit st.length (pl st.length h c) (p1.length + p2.length) hs
  have hr := ahead_rest st.length (pl st.length h c) (p1.length + p2.length) hs (by omega)
  rw [← h1] at hf hr
  have l1 : (splice st (pl st.length h c) p1).length = st.length := length_splice _ _ _ hf
  have l2 : (splice (splice st (pl st.length h c) p1) 0 p2).length = st.length := by rw [length_splice _ _ _ (by rw [l1]; omega), l1]
  apply List.ext_getElem?
  intro i
  have lw : (win st h c).length = c := win_length _ _ _ (by omega)
  by_cases hi : i < c + (p1.length + p2.length)
  · rw [win_get _ h _ i hi (by rw [l2]; exact hh) (by rw [l2]; omega), l2, splice_get _ _ _ (by rw [l1]; omega), splice_get _ _ _ hf, List.getElem?_append, lw, if_neg (by omega)]
    have ei : pl st.length h i = if st.length ≤ h + i then h + i - st.length else h + i := rfl
    have ec : pl st.length h c = if st.length ≤ h + c then h + c - st.length else h + c := rfl
    have ea : ahead st.length (pl st.length h c) (p1.length + p2.length) = min (pl st.length h c + (p1.length + p2.length)) st.length - pl st.length h c := rfl
    rw [ea] at h1
    by_cases ci : i < c
    · rw [if_pos ci, win_get _ h c i ci hh (by omega)]
      rw [if_neg (by split at ei <;> split at ec <;> omega)]
      by_cases c3 : pl st.length h i < pl st.length h c
      · rw [if_pos c3]
      · rw [if_neg c3, if_neg (by split at ei <;> split at ec <;> omega)]
    · rw [if_neg ci, List.getElem?_append]
      by_cases c2 : i - c < p1.length
      · rw [if_pos c2]
        rw [if_neg (by split at ei <;> split at ec <;> omega), if_neg (by split at ei <;> split at ec <;> omega), if_pos (by split at ei <;> split at ec <;> omega)]
        congr 1
        split at ei <;> split at ec <;> omega
      · rw [if_neg c2, if_pos (by split at ei <;> split at ec <;> omega)]
        congr 1
        split at ei <;> split at ec <;> omega
  · rw [List.getElem?_eq_none (by rw [win_length _ _ _ (by rw [l2]; omega)]; omega), List.getElem?_eq_none]
    rw [List.length_append, List.length_append, lw]
    omega

/-- Two copies fill a new row. -/
theorem fill_two (n k : Nat) (p1 p2 : List UInt8) (h1 : p1.length = k) (h2 : k + p2.length = n) : splice (splice (List.replicate n 0) 0 p1) k p2 = p1 ++ p2 := by
  have l0 : (List.replicate n (0 : UInt8)).length = n := by simp
  have l1 : (splice (List.replicate n (0 : UInt8)) 0 p1).length = n := by rw [length_splice _ _ _ (by rw [l0]; omega), l0]
  apply List.ext_getElem?
  intro i
  rw [splice_get _ _ _ (by rw [l1]; omega), splice_get _ _ _ (by rw [l0]; omega), List.getElem?_append]
  by_cases c : i < k
  · rw [if_pos c, if_neg (by omega), if_pos (by omega), if_pos (by omega), Nat.sub_zero]
  · rw [if_neg c, if_neg (show ¬ i < p1.length by omega)]
    by_cases c2 : i < k + p2.length
    · rw [if_pos c2, h1]
    · rw [if_neg c2, if_neg (by omega), if_neg (by omega), List.getElem?_eq_none (by rw [l0]; omega), List.getElem?_eq_none (by omega)]

/-- A list's bytes as cells. -/
def bv (l : List UInt8) : List Value := l.map fun x => Value.int .u8 (x.toNat : Int)
theorem bv_length (l : List UInt8) : (bv l).length = l.length := by unfold bv; simp
theorem bv_get (l : List UInt8) (i : Nat) : (bv l)[i]? = (l[i]?).map fun x => Value.int .u8 (x.toNat : Int) := by unfold bv; simp
theorem bv_append (a b : List UInt8) : bv (a ++ b) = bv a ++ bv b := by unfold bv; simp
theorem bv_one (l : List UInt8) : ∀ v ∈ bv l, v.oneCell' = true := by
  intro v hv
  unfold bv at hv
  obtain ⟨x, _, rfl⟩ := List.mem_map.1 hv
  rfl
theorem bv_splice (L : List UInt8) (off : Nat) (cs : List UInt8) : splice (bv L) off (bv cs) = bv (splice L off cs) := splice_map _ L off cs

end Rg
end Go.Proofs.Ytiecfidkoficnaa
