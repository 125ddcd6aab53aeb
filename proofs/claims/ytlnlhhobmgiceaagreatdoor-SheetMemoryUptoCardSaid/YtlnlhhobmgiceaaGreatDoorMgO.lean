/- Several texts as one. -/
import Derived.Test.YtlnlhhobmgiceaaGreatDoorSrI
import Derived.Test.YtlnlhhobmgiceaaGreatDoorSrB
import Derived.Test.YtlnlhhobmgiceaaGreatDoorMgM
/-
  sheet: what fields, part and parts answer (plain), and how far they go.
-/
set_option linter.unusedVariables false
set_option linter.unusedSimpArgs false
namespace Go.Proofs.YtlnlhhobmgiceaaGreatDoor
open Go.RowKit Go.Shelf
namespace Sr
open Oc Tg Mf

/-- Every line lies inside. -/
theorem lnsR_in : ∀ (n : Nat) (r : List UInt8) (a : Nat), r.length ≤ n → ∀ x ∈ lnsR r a, a ≤ x.1 ∧ x.1 + x.2.length + 2 ≤ a + r.length
  | n, r, a, hn, x, hx => by
    cases h : (ct r).2.2 with
    | false => rw [lnsR_end a h] at hx; cases hx
    | true =>
      have h1 := ct_len h
      rw [lnsR_step a h] at hx
      rcases List.mem_cons.1 hx with rfl | hx
      · exact ⟨Nat.le_refl _, by dsimp only; omega⟩
      · match n with
        | 0 => omega
        | n + 1 =>
          have := lnsR_in n (ct r).2.1 (a + (ct r).1.length + 2) (by omega) x hx
          exact ⟨by omega, by omega⟩

/-- What fields answers over the lines that are left: the part, what is wrong, the place behind the empty line. -/
def fldP (z : Nat) : List (Nat × List UInt8) → Pt.P5 → Bool → Bool → Pt.P5 × Option (Int × Int) × Nat
  | [], _, _, _ => (Pt.p0, some ((z : Int), 154), 0)
  | (a, l) :: r, x, d, t =>
    if (takP l x d t).1 ≠ 0 then (Pt.p0, some ((a : Int), (takP l x d t).1), 0)
    else if l = [] then ((takP l x d t).2.1, none, a + 2)
    else fldP z r (takP l x d t).2.1 (takP l x d t).2.2.1 (takP l x d t).2.2.2
theorem fldP_in (z lo hi : Nat) : ∀ (ls : List (Nat × List UInt8)) (x : Pt.P5) (d t : Bool), (∀ y ∈ ls, lo ≤ y.1 ∧ y.1 + y.2.length + 2 ≤ hi) → (fldP z ls x d t).2.1 = none → lo + 2 ≤ (fldP z ls x d t).2.2 ∧ (fldP z ls x d t).2.2 ≤ hi
  | [], _, _, _, _, h => by cases h
  | (a, l) :: r, x, d, t, hy, h => by
    unfold fldP at h ⊢
    have h0 := hy (a, l) (List.mem_cons_self ..)
    dsimp only at h0
    split
    · rename_i k
      rw [if_pos k] at h
      cases h
    · rename_i k
      rw [if_neg k] at h
      split
      · exact ⟨by dsimp only; omega, by dsimp only; omega⟩
      · rename_i k2
        rw [if_neg k2] at h
        exact fldP_in z lo hi r _ _ _ (fun y m => hy y (List.mem_cons_of_mem _ m)) h
/-- What the method fields answers from a place on. -/
def fdsP (l : List UInt8) (a : Nat) : Pt.P5 × Option (Int × Int) × Nat := fldP l.length (lnsR (l.drop a) a) Pt.p0 false false
theorem fdsP_in (l : List UInt8) (a : Nat) (ha : a ≤ l.length) (h : (fdsP l a).2.1 = none) : a + 2 ≤ (fdsP l a).2.2 ∧ (fdsP l a).2.2 ≤ l.length :=
  fldP_in l.length a l.length _ _ _ _ (fun y m => by
    have := lnsR_in (l.drop a).length (l.drop a) a (Nat.le_refl _) y m
    rw [List.length_drop] at this
    omega) h

/-- What part answers: the part, what is wrong, the place. -/
def prtP (l mk : List UInt8) (a : Nat) : Pt.P5 × Option (Int × Int) × Nat :=
  if (fdsP l a).2.1 ≠ none then (Pt.p0, (fdsP l a).2.1, a)
  else if Lib.hasPrefix (l.drop (fdsP l a).2.2) mk = true then (Pt.p0, some (((fdsP l a).2.2 : Int), 152), (fdsP l a).2.2)
  else ({ (fdsP l a).1 with b := (bytP (l.drop (fdsP l a).2.2) mk l.length).1 }, (bytP (l.drop (fdsP l a).2.2) mk l.length).2.1, (fdsP l a).2.2 + (bytP (l.drop (fdsP l a).2.2) mk l.length).2.2)

theorem bytP_in (r mk : List UInt8) (z : Nat) (h : (bytP r mk z).2.1 = none) : (bytP r mk z).2.2 + mk.length ≤ r.length := by
  unfold bytP at h ⊢
  split
  · rename_i k
    rw [if_pos k] at h
    dsimp only
    unfold Lib.cut at k ⊢
    split
    · rename_i hi
      have hp := Lib.index_room r ([13, 10] ++ mk) hi
      simp at hp hi ⊢
      omega
    · rename_i hi
      rw [if_neg hi] at k
      cases k
  · rename_i k
    rw [if_neg k] at h
    cases h
theorem prtP_in (l mk : List UInt8) (a : Nat) (ha : a ≤ l.length) (h : (prtP l mk a).2.1 = none) : a + 2 ≤ (prtP l mk a).2.2 ∧ (prtP l mk a).2.2 + mk.length ≤ l.length := by
  unfold prtP at h ⊢
  split
  · rename_i k
    rw [if_pos k] at h
    exact absurd h k
  · rename_i k
    rw [if_neg k] at h
    have k' : (fdsP l a).2.1 = none := by simpa using k
    have h1 := fdsP_in l a ha k'
    split
    · rename_i k2
      rw [if_pos k2] at h
      cases h
    · rename_i k2
      rw [if_neg k2] at h
      have h2 := bytP_in _ _ _ h
      rw [List.length_drop] at h2
      exact ⟨by dsimp only; omega, by dsimp only; omega⟩
theorem tkP_in (l : List UInt8) (a k : Nat) (last : Bool) (ha : a + k ≤ l.length) (h : (tkP l a k last).2.1 = none) (hl : (tkP l a k last).1 = false) : a + k + 2 ≤ (tkP l a k last).2.2 ∧ (tkP l a k last).2.2 ≤ l.length := by
  have h1 := trimL_len (l.drop (a + k))
  rw [List.length_drop] at h1
  unfold tkP at h hl ⊢
  split
  · rename_i k1
    have h2 : 2 ≤ (trimL (l.drop (a + k))).length := by
      have := pre_len (List.isPrefixOf_iff_prefix.1 k1)
      simpa using this
    exact ⟨by dsimp only; omega, by dsimp only; omega⟩
  · rename_i k1
    rw [if_neg k1] at h hl
    split
    · rename_i k2
      rw [if_pos k2] at hl
      cases hl
    · rename_i k2
      rw [if_neg k2] at h
      split
      · rename_i k3
        rw [if_pos k3] at h
        cases h
      · rename_i k3
        rw [if_neg k3] at h
        cases h

/-- What parts answers from a mark on. -/
def prsP (l mk : List UInt8) (most : Nat) : Nat → List Pt.P5 → Nat → List Pt.P5 × Option (Int × Int)
  | 0, _, _ => ([], none)
  | f + 1, ps, a =>
    if (tkP l a mk.length (decide (0 < ps.length))).2.1 ≠ none then ([], (tkP l a mk.length (decide (0 < ps.length))).2.1)
    else if (tkP l a mk.length (decide (0 < ps.length))).1 = true then (ps, none)
    else if ps.length = most then ([], some ((a : Int), 153))
    else if (prtP l mk (tkP l a mk.length (decide (0 < ps.length))).2.2).2.1 ≠ none then ([], (prtP l mk (tkP l a mk.length (decide (0 < ps.length))).2.2).2.1)
    else prsP l mk most f (ps ++ [(prtP l mk (tkP l a mk.length (decide (0 < ps.length))).2.2).1]) (prtP l mk (tkP l a mk.length (decide (0 < ps.length))).2.2).2.2
/-- What the method parts answers. -/
def allP (l mk : List UInt8) (most : Nat) : List Pt.P5 × Option (Int × Int) :=
  if (preP l mk).1 ≠ none then ([], (preP l mk).1) else prsP l mk most (l.length + 1) [] (preP l mk).2

end Sr
end Go.Proofs.YtlnlhhobmgiceaaGreatDoor

/-
  sheet: the function lines, and its iterator as one that may be stopped.
-/
set_option linter.unusedVariables false
set_option linter.unusedSimpArgs false
namespace Go.Proofs.YtlnlhhobmgiceaaGreatDoor
open Go.RowKit Go.Shelf
namespace Sr
open Oc Tg Mf

set_option maxRecDepth 100000 in
set_option maxHeartbeats 1000000 in
theorem lines_any (s : ByteArray) (a : Int) (w : World) : Calls Tryz.prog 118 #[.string s, .int .i64 a] w fun e w' => e = .returned (.func (.func 132) #[] #[.pointer (some ⟨w.heap.size + 1, 0, none⟩), .pointer (some ⟨w.heap.size, 0, none⟩)]) ∧ w' = (w.alloc (.cells #[.string s] 9)).alloc (.cells #[.int .i64 a] 3) := by
  go_enter Tryz.func118, Tryz.ntmps118
  go_wp2
  go_ret
  exact ⟨rfl, rfl⟩

theorem lines_stops (n : Nat) (Bs Bp a0 : Nat) (s : ByteArray) (hs : s.size ≤ 4000000000) (ha : a0 ≤ s.size) (w : World) (hm : ML w) (hc : w.cell? ⟨Bs, 0, none⟩ = some (.string s)) (hp : w.cell? ⟨Bp, 0, none⟩ = some (.int .i64 (a0 : Int))) :
    SeqStopsK Fence.wide n Tryz.prog 132 #[.pointer (some ⟨Bp, 0, none⟩), .pointer (some ⟨Bs, 0, none⟩)] (encL (M := s.size)) (Keep3 Bs Bp 1) (fun ys => ys.map prL = lnsR (s.data.toList.drop a0) a0)
      (fun pre => ∃ rest, pre.map prL ++ rest = lnsR (s.data.toList.drop a0) a0) (s.size + 1) w := fun l J Jx W hW hJ _ hY h0 =>
  lines1_in n l Bs Bp a0 s hs ha J Jx (fun pre A B h hb => hJ _ _ _ _ h (grown_of_below hb) (fun r e => by cases e)) hY W (hm.below hW) ((hW.cell (p := ⟨Bs, 0, none⟩) (cell_lt hc)).trans hc) ((hW.cell (p := ⟨Bp, 0, none⟩) (cell_lt hp)).trans hp) h0

end Sr
end Go.Proofs.YtlnlhhobmgiceaaGreatDoor
