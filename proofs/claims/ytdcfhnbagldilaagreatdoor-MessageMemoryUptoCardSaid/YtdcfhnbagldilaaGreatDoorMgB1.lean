import Derived.Test.YtdcfhnbagldilaaGreatDoorMgZ
import Derived.Test.YtdcfhnbagldilaaGreatDoorMuC
import Derived.Test.YtdcfhnbagldilaaGreatDoorMgA1
import Derived.Test.YtdcfhnbagldilaaGreatDoorMgY
import Derived.Test.YtdcfhnbagldilaaGreatDoorMsZ
import Derived.Test.YtdcfhnbagldilaaGreatDoorMgB
set_option linter.unusedVariables false
set_option linter.unusedSimpArgs false
set_option maxRecDepth 100000
namespace Go.Proofs.YtdcfhnbagldilaaGreatDoor
open Go.RowKit Go.Shelf
namespace Ms
open Oc Tg _root_.Go.Proofs.YtdcfhnbagldilaaGreatDoor.Fd _root_.Go.Proofs.YtdcfhnbagldilaaGreatDoor.Ck
theorem run_rest : ∀ (l : List UInt8) (s : HS), s.piece = l → s.used ≤ (hRun s l).1.used ∧ (hRun s l).1.piece = l.drop ((hRun s l).1.used - s.used) ∧ (hRun s l).1.ended = s.ended ∧ (hRun s l).1.used ≤ s.used + l.length
  | [], s, h => ⟨Nat.le_refl _, by show s.piece = _; rw [h]; simp, rfl, Nat.le_refl _⟩
  | u :: t, s, h => by
    have e : hRun s (u :: t) = if s.headed = true then (s, 0) else if (hTake (hNext s t) u s.used).2 ≠ 0 then hTake (hNext s t) u s.used else hRun (hTake (hNext s t) u s.used).1 t := rfl
    rw [e]
    obtain ⟨p1, p2, p3⟩ := hTake_piece (hNext s t) u s.used
    have q1 : (hNext s t).piece = t := rfl
    have q2 : (hNext s t).used = s.used + 1 := rfl
    have q3 : (hNext s t).ended = s.ended := rfl
    rw [q1] at p1
    rw [q2] at p2
    rw [q3] at p3
    by_cases hh : s.headed = true
    · rw [if_pos hh]
      refine ⟨Nat.le_refl _, ?_, rfl, Nat.le_add_right _ _⟩
      show s.piece = _
      rw [h, Nat.sub_self]
      rfl
    · rw [if_neg hh]
      by_cases hz : (hTake (hNext s t) u s.used).2 ≠ 0
      · rw [if_pos hz, p1, p2, p3]
        refine ⟨by omega, ?_, rfl, by rw [List.length_cons]; omega⟩
        rw [show s.used + 1 - s.used = 1 by omega]
        rfl
      · rw [if_neg hz]
        obtain ⟨i1, i2, i3, i4⟩ := run_rest t (hTake (hNext s t) u s.used).1 p1
        rw [p2] at i1 i2 i4
        rw [p3] at i3
        refine ⟨by omega, ?_, i3, by rw [List.length_cons]; omega⟩
        rw [i2]
        generalize (hRun (hTake (hNext s t) u s.used).1 t).1.used = U at *
        rw [show U - s.used = (U - (s.used + 1)) + 1 by omega]
        rfl
def Shut (s : DS) : Prop := s.err ≠ 105
theorem shut_fin (s : DS) (e : Int) (h : e ≠ 105) : Shut (fin s e) := h
theorem size_err (l : List UInt8) : (sizeR l).2.2 ≠ 105 := by
  unfold sizeR
  repeat' split
  all_goals (dsimp only; decide)
theorem shut_step {s : DS} (h : Shut s) (c : UInt8) : Shut (bstep s c) := by
  unfold bstep
  split
  · unfold inSize endSize
    repeat' split
    all_goals first | exact h | exact shut_fin _ _ (by decide) | exact shut_fin _ _ (size_err _)
  · exact h
  · unfold behindChunk
    split
    · exact h
    · exact shut_fin _ _ (by decide)
  · unfold behindReturn
    split
    · exact h
    · exact shut_fin _ _ (by decide)
  · unfold inTrailers endTrailer keep
    repeat' split
    all_goals first | exact h | exact shut_fin _ _ (by decide)
  · exact h
theorem shut_eat : ∀ (l : List UInt8) (s : DS), Shut s → Shut (eat s l).2
  | [], s, h => by rw [eat_nil]; exact h
  | c :: l, s, h => by
    by_cases hm : s.mode = 5
    · rw [eat_over hm]; exact h
    · rw [eat_cons hm]; exact shut_eat l (bstep s c) (shut_step h c)
def cE (e : Int) : Int := if e = 105 then 124 else if e = 102 then 125 else e
def docB (me : List UInt8) (B : ByteArray) (m : Nat) (en : Bool) (h : Hd) (n : Int) : Option (Hd × List UInt8 × List Fl) × Int × Int :=
  if bdl me h.st = true then (some (h, [], []), n, 0)
  else if h.kind = 2 then
    (if cE (Ck.decR (m : Int) 65536 100 (B.data.toList.drop n.toNat)).2.2.2 ≠ 0 then (none, n + (Ck.decR (m : Int) 65536 100 (B.data.toList.drop n.toNat)).2.2.1, cE (Ck.decR (m : Int) 65536 100 (B.data.toList.drop n.toNat)).2.2.2)
    else (some (h, (Ck.decR (m : Int) 65536 100 (B.data.toList.drop n.toNat)).1, (Ck.decR (m : Int) 65536 100 (B.data.toList.drop n.toNat)).2.1), n + (Ck.decR (m : Int) 65536 100 (B.data.toList.drop n.toNat)).2.2.1, 0))
  else if h.kind = 1 then
    (if (m : Int) < h.len then (none, n, 125) else if ((B.data.toList.drop n.toNat).length : Int) < h.len then (none, (B.size : Int), 124) else (some (h, (B.data.toList.drop n.toNat).take h.len.toNat, []), n + h.len, 0))
  else if m < (B.data.toList.drop n.toNat).length then (none, n + (m : Int), 125) else if en = false then (none, (B.size : Int), 124) else (some ({ h with per := false }, B.data.toList.drop n.toNat, []), (B.size : Int), 0)
def docP (me : List UInt8) (B : ByteArray) (m : Nat) (en : Bool) : Option (Hd × List UInt8 × List Fl) × Int × Int :=
  match (docH B).1 with
  | none => (none, (docH B).2.1, (docH B).2.2)
  | some h => docB me B m en h (docH B).2.1
def outW (z : Nat) (W : BR × List Fl) : Option (Hd × List UInt8 × List Fl) × Int × Int :=
  if W.1.err ≠ 0 then (none, W.1.s.wrong, W.1.err) else if W.1.done = false then (none, (z : Int), 124) else (some (⟨W.1.s.st, W.1.s.rs, W.1.s.fs, W.1.s.minor, W.1.s.kind, W.1.s.len, W.1.s.per⟩, W.1.bd, W.2), (W.1.s.used : Int), 0)
theorem out_parse (me : List UInt8) (B : ByteArray) (m : Nat) (en : Bool) (hm : (m : Int) ≤ 9223372036854775807) (hlen : (hRun (newH B.data.toList en) B.data.toList).1.headed = true → ∃ n : Nat, (hRun (newH B.data.toList en) B.data.toList).1.len = (n : Int)) :
    outW B.size (rspW (newH B.data.toList en) me m) = docP me B m en := by
  have hH := out_head B en
  obtain ⟨-, r2, r3, r4⟩ := run_rest B.data.toList (newH B.data.toList en) rfl
  have hp : (newH B.data.toList en).piece = B.data.toList := rfl
  have h0 : (newH B.data.toList en).used = 0 := rfl
  have h3 : (newH B.data.toList en).ended = en := rfl
  rw [h0, Nat.sub_zero] at r2
  rw [h0, Nat.zero_add, size_list] at r4
  rw [h3] at r3
  unfold rspW rspR
  rw [hp]
  unfold docP
  rw [← hH]
  generalize hRun (newH B.data.toList en) B.data.toList = R at *
  obtain ⟨s, z⟩ := R
  dsimp only at hlen r2 r3 r4 ⊢
  clear hH hp h0 h3
  unfold outH
  dsimp only
  by_cases hz : z = 0
  case neg =>
    have hz2 : z ≠ 0 := hz
    rw [if_neg (fun h => hz h.1), if_pos (.inl hz2), if_pos hz2]
    unfold outW
    dsimp only
    rw [if_pos hz2]
  subst hz
  rw [if_neg (show ¬ ((0 : Int) ≠ 0) from fun h => h rfl)]
  by_cases hh : s.headed = false
  · rw [if_neg (fun h => by rw [hh] at h; cases h.2.1), if_pos (.inr hh), if_pos hh]
    unfold outW
    dsimp only
    rw [if_neg (fun h => h rfl), if_pos rfl]
  have hh1 : s.headed = true := by simpa using hh
  obtain ⟨len, hl⟩ := hlen hh1
  have hno : ¬ ((0 : Int) ≠ 0 ∨ s.headed = false) := fun h => h.elim (fun h => h rfl) hh
  rw [if_neg hh, if_neg hno]
  dsimp only
  have hu : ((s.used : Nat) : Int).toNat = s.used := rfl
  unfold docB
  dsimp only
  rw [hu, ← r2]
  by_cases hb : bdl me s.st = true
  · rw [if_neg (fun h => by rw [hb] at h; cases h.2.2.1), if_pos hb, if_pos hb]
    rfl
  have hb1 : bdl me s.st = false := by simpa using hb
  rw [if_neg hb, if_neg hb]
  by_cases hk : s.kind = 2
  · rw [if_pos ⟨rfl, hh1, hb1, hk⟩, if_pos hk]
    have hsh := shut_eat s.piece (new (m : Int) 65536 100) (by show (0 : Int) ≠ 105; decide)
    have hok := eat_ok s.piece _ 0 (Ok.new (m : Int) 65536 100 ⟨by omega, hm⟩ ⟨by omega, by omega⟩ ⟨by omega, by omega⟩)
    have hall := eat_all s.piece (new (m : Int) 65536 100)
    unfold chkR Ck.decR
    rw [if_neg (show ¬ ((m : Int) < 0 ∨ (65536 : Int) < 0 ∨ (100 : Int) < 0) by omega)]
    have hpl : s.piece.length = B.size - s.used := by rw [r2, List.length_drop, size_list]
    generalize eat (new (m : Int) 65536 100) s.piece = E at *
    by_cases he : E.2.err ≠ 0
    · rw [if_pos he, if_pos he]
      dsimp only
      have hE : cE E.2.err = cErr E.2.err := by
        unfold cE cErr
        rw [if_neg hsh]
      have hne : cErr E.2.err ≠ 0 := by
        unfold cErr
        split
        · decide
        · exact he
      rw [hE, if_pos hne]
      unfold outW
      dsimp only
      rw [if_pos hne]
      congr 2
      omega
    · rw [if_neg he, if_neg he]
      by_cases hd : E.2.done = true
      · rw [if_pos hd, if_neg (show ¬ E.2.done = false by rw [hd]; simp)]
        dsimp only
        rw [if_neg (show ¬ (cE 0 ≠ 0) from fun h => h rfl)]
        rfl
      · have hd1 : E.2.done = false := by simpa using hd
        rw [if_neg hd, if_pos hd1]
        dsimp only
        rw [if_pos (show cE 105 ≠ 0 by decide)]
        unfold outW
        dsimp only
        rw [if_neg (fun h => h rfl), if_pos rfl]
        have hmo : E.2.mode ≠ 5 := fun h5 => by
          rcases hok.over.1 h5 with h | h
          · exact hd h
          · exact he h
        have := hall hmo
        rw [this]
        congr 2
        omega
  · rw [if_neg (fun h => hk h.2.2.2), if_neg hk]
    have hpl : s.piece.length = B.size - s.used := by rw [r2, List.length_drop, size_list]
    by_cases h1 : s.kind = 1
    · rw [if_pos h1, if_pos h1, hl]
      have hlt : ((len : Nat) : Int).toNat = len := rfl
      rw [hlt]
      unfold lenR
      have ht : took s [] len = min len s.piece.length := rfl
      rw [ht]
      by_cases c1 : m < len
      · rw [if_pos c1, if_pos (show (m : Int) < (len : Int) by omega)]
        rfl
      · rw [if_neg c1, if_neg (show ¬ (m : Int) < (len : Int) by omega)]
        by_cases c2 : s.piece.length < len
        · rw [if_pos (show ([] : List UInt8).length + min len s.piece.length < len by simp only [List.length_nil]; omega), if_pos (show (s.piece.length : Int) < (len : Int) by omega)]
          rfl
        · rw [if_neg (show ¬ ([] : List UInt8).length + min len s.piece.length < len by simp only [List.length_nil]; omega), if_neg (show ¬ (s.piece.length : Int) < (len : Int) by omega)]
          unfold outW
          dsimp only
          rw [if_neg (fun h => h rfl), if_neg (by simp), Nat.min_eq_left (by omega), List.nil_append]
          unfold bNext
          dsimp only
          rw [hl]
          congr 2
    · rw [if_neg h1, if_neg h1]
      unfold endR
      have ht : took s [] m = min m s.piece.length := rfl
      rw [ht, r3]
      by_cases c1 : m < s.piece.length
      · rw [if_pos c1, if_pos (show s.piece.drop (min m s.piece.length) ≠ [] by
          rw [Nat.min_eq_left (by omega)]
          intro h
          have := congrArg List.length h
          rw [List.length_drop] at this
          simp only [List.length_nil] at this
          omega), Nat.min_eq_left (by omega)]
        unfold outW
        dsimp only
        rw [if_pos (by decide)]
        congr 2
      · rw [if_neg c1, if_neg (show ¬ s.piece.drop (min m s.piece.length) ≠ [] by
          intro h
          exact h (List.drop_eq_nil_of_le (by omega)))]
        by_cases c2 : en = false
        · rw [if_pos c2, if_pos c2]
          rfl
        · rw [if_neg c2, if_neg c2, Nat.min_eq_right (by omega), List.nil_append, List.take_length]
          unfold outW bNext
          dsimp only
          rw [if_neg (fun h => h rfl), if_neg (by simp)]
          congr 2
          omega
end Ms
end Go.Proofs.YtdcfhnbagldilaaGreatDoor
set_option linter.unusedVariables false
set_option linter.unusedSimpArgs false
set_option maxRecDepth 100000
namespace Go.Proofs.YtdcfhnbagldilaaGreatDoor
open Go.RowKit Go.Shelf
namespace Ms
open Oc Tg _root_.Go.Proofs.YtdcfhnbagldilaaGreatDoor.Fd _root_.Go.Proofs.YtdcfhnbagldilaaGreatDoor.Ck
def parH (R : HS × Int) (z : Nat) (vf : Value) : List Value × Int × Int :=
  if R.2 ≠ 0 then (zeroC, R.1.wrong, R.2) else if R.1.headed = false then (zeroC, (z : Int), 124) else (repC R.1 [] vf (.slice none 0 0), (R.1.used : Int), 0)
end Ms
end Go.Proofs.YtdcfhnbagldilaaGreatDoor
set_option linter.unusedVariables false
set_option linter.unusedSimpArgs false
set_option maxRecDepth 100000
namespace Go.Proofs.YtdcfhnbagldilaaGreatDoor
open Go.RowKit Go.Shelf
namespace Ms
open Oc Tg _root_.Go.Proofs.YtdcfhnbagldilaaGreatDoor.Fd _root_.Go.Proofs.YtdcfhnbagldilaaGreatDoor.Ck
end Ms
end Go.Proofs.YtdcfhnbagldilaaGreatDoor
set_option linter.unusedVariables false
set_option linter.unusedSimpArgs false
set_option maxRecDepth 100000
namespace Go.Proofs.YtdcfhnbagldilaaGreatDoor
open Go.RowKit Go.Shelf
namespace Ms
open Oc Tg _root_.Go.Proofs.YtdcfhnbagldilaaGreatDoor.Fd _root_.Go.Proofs.YtdcfhnbagldilaaGreatDoor.Ck
structure Box2 (TR TM : Nat) (w W0 : World) (cr cm : List Value) : Prop where
  bel : Below w.heap.size w W0
  resp : Blk TR W0 w.heap.size cr
  man : Blk TM W0 (w.heap.size + 1) cm
theorem box2 (TR TM : Nat) (w : World) (cr cm : List Value) : Box2 TR TM w ((w.alloc (.cells cr.toArray TR)).alloc (.cells cm.toArray TM)) cr cm := by
  refine ⟨((Below.refl _ w).alloc (Nat.le_refl _) _).alloc (by simp) _, ?_, ?_⟩
  · exact Blk.below (heap_alloc_new w _) ((Below.refl _ _).alloc (Nat.le_refl _) _)
  · have h1 := heap_alloc_new (w.alloc (.cells cr.toArray TR)) (.cells cm.toArray TM)
    have e : (w.alloc (.cells cr.toArray TR)).heap.size = w.heap.size + 1 := by simp
    rw [e] at h1
    exact h1
def frmR (r : Rs) (m : Mn) : Bool := anyI r.fs r.st || misf r m
end Ms
end Go.Proofs.YtdcfhnbagldilaaGreatDoor
set_option linter.unusedVariables false
set_option linter.unusedSimpArgs false
set_option maxRecDepth 100000
namespace Go.Proofs.YtdcfhnbagldilaaGreatDoor
open Go.RowKit Go.Shelf
namespace Ms
open Oc Tg _root_.Go.Proofs.YtdcfhnbagldilaaGreatDoor.Fd _root_.Go.Proofs.YtdcfhnbagldilaaGreatDoor.Ck
end Ms
end Go.Proofs.YtdcfhnbagldilaaGreatDoor
