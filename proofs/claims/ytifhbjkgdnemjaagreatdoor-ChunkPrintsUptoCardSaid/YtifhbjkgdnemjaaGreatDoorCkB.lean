/-
  A decoder in memory; end, takeLine.
-/
import Derived.Test.YtifhbjkgdnemjaaGreatDoorCkA
import Derived.Test.YtifhbjkgdnemjaaGreatDoorRQuote
import Derived.Laws.EntriesVeiled
import Derived.Test.YtifhbjkgdnemjaaGreatDoorShelf
set_option linter.unusedVariables false
set_option linter.unusedSimpArgs false
set_option maxRecDepth 100000
namespace Go.Proofs.YtifhbjkgdnemjaaGreatDoor
open Go.RowKit Go.Shelf
namespace Ck
open Oc Tg _root_.Go.Proofs.YtifhbjkgdnemjaaGreatDoor.Fd

def Sep (u v : Value) : Prop := ∀ g, u.ownBlock = some g → v.ownBlock ≠ some g
theorem Sep.nil (v : Value) : Sep (.slice none 0 0) v := fun g h => by cases h
theorem Sep.of {a : Option Addr} {n m c d : Nat} {v : Value} (h : Sep (.slice a n c) v) : Sep (.slice a m d) v := fun g hg => h g (by cases a with
  | none => cases hg
  | some a => exact hg)

/-- What is done with the next byte. -/
def fnV : Nat → Value
  | 0 => .func (.func 39) #[] #[]
  | 1 => .func (.func 73) #[] #[]
  | 2 => .func (.func 92) #[] #[]
  | 3 => .func (.func 107) #[] #[]
  | 4 => .func (.func 72) #[] #[]
  | _ => .nilFunc
def cellsD (s : DS) (vl vb vt : Value) : Array Value := #[fnV s.mode, .bool s.done, .int .i64 s.err, .int .i64 s.most, .int .i64 s.room, .int .i64 s.fields, .int .i64 s.left, .int .i64 s.total, vl, vb, vt]
structure IsD (w : World) (D : Nat) (s : DS) (vl vb vt : Value) : Prop where
  str : w.heap[D]? = some (.cells (cellsD s vl vb vt) 87 (0, 0))
  line : Own 0 vl s.line w
  body : Own 0 vb s.body w
  tr : OwnF 39 0 vt s.tr w
  sep : Sep vl vb
def ft (D : Nat) (vl vb vt : Value) : List Nat := D :: (vl.ownBlock.toList ++ vb.ownBlock.toList ++ vt.ownBlock.toList)
def Dec (w : World) (D : Nat) (s : DS) (bs : List Nat) : Prop := ∃ vl vb vt, IsD w D s vl vb vt ∧ bs = ft D vl vb vt

theorem row11 {W : World} {b : Nat} {s : DS} {vl vb vt : Value} (h : W.heap[b]? = some (.cells (cellsD s vl vb vt) 87 (0, 0))) :
    W.cell? ⟨b, 0, none⟩ = some (fnV s.mode) ∧ W.cell? ⟨b, 1, none⟩ = some (.bool s.done) ∧ W.cell? ⟨b, 2, none⟩ = some (.int .i64 s.err) ∧ W.cell? ⟨b, 3, none⟩ = some (.int .i64 s.most) ∧ W.cell? ⟨b, 4, none⟩ = some (.int .i64 s.room) ∧ W.cell? ⟨b, 5, none⟩ = some (.int .i64 s.fields) ∧ W.cell? ⟨b, 6, none⟩ = some (.int .i64 s.left) ∧ W.cell? ⟨b, 7, none⟩ = some (.int .i64 s.total) ∧ W.cell? ⟨b, 8, none⟩ = some vl ∧ W.cell? ⟨b, 9, none⟩ = some vb ∧ W.cell? ⟨b, 10, none⟩ = some vt ∧ ∀ i, W.frozen? ⟨b, i, none⟩ = false := by
  refine ⟨?_, ?_, ?_, ?_, ?_, ?_, ?_, ?_, ?_, ?_, ?_, fun i => frozen_of_row W b i _ _ h⟩ <;> rw [cell_of_row W b _ _ _ _ h] <;> rfl

/-- The decoder's block, as it turns. -/
structure At (w0 w : World) (D : Nat) (cs : Array Value) : Prop where
  but : But [D] w0 w
  str : w.heap[D]? = some (.cells cs 87 (0, 0))
theorem At.set {w0 w : World} {D : Nat} {cs : Array Value} (h : At w0 w D cs) (i : Nat) (v : Value) : At w0 (w.setCell ⟨D, i, none⟩ v) D (cs.setIfInBounds i v) :=
  ⟨h.but.setCell (by simp) _, heap_setCell_same w D i cs _ v h.str⟩
theorem IsD.at {w : World} {D : Nat} {s : DS} {vl vb vt : Value} (h : IsD w D s vl vb vt) : At w w D (cellsD s vl vb vt) := ⟨But.refl _ _, h.str⟩
theorem At.below {w0 w w' : World} {D : Nat} {cs : Array Value} (h : At w0 w D cs) (hb : Below w.heap.size w w') : At w0 w' D cs :=
  ⟨h.but.trans (But.of_below hb).nil, (But.of_below hb).heap h.str (fun e => by cases e)⟩
theorem ne_row {w : World} {D g B T S n : Nat} {v : Value} {xs : List Value} {cs : Array Value} (hD : w.heap[D]? = some (.cells cs 87 (0, 0))) (h : w.ownsRow B T S v n xs) (hT : T ≠ 87) (hg : v.ownBlock = some g) : g ≠ D := by
  intro e
  subst e
  rcases h.2 with ⟨rfl, _⟩ | ⟨g', cap, cur, rfl, _, hg', _⟩
  · cases hg
  · have : g' = g := by simpa [Value.ownBlock] using hg
    subst this
    rw [hD] at hg'
    injection hg' with e
    injection e with _ e2 _
    exact hT e2.symm
theorem keep_row {w w' : World} {D B T S n : Nat} {v : Value} {xs : List Value} {cs : Array Value} (hD : w.heap[D]? = some (.cells cs 87 (0, 0))) (h : w.ownsRow B T S v n xs) (hT : T ≠ 87) (hb : But [D] w w') : w'.ownsRow B T S v n xs :=
  hb.owns h (fun g hg e => ne_row hD h hT hg (by simpa using e))
/-- The decoder's block has turned; its rows have not. -/
theorem IsD.build {w w' : World} {D : Nat} {s' : DS} {vl vb vt : Value} {cs : Array Value} (hD : w.heap[D]? = some (.cells cs 87 (0, 0))) {cs' : Array Value} (hA : At w w' D cs') (hc : cs' = cellsD s' vl vb vt)
    (hl : Own 0 vl s'.line w) (hb : Own 0 vb s'.body w) (ht : OwnF 39 0 vt s'.tr w) (hs : Sep vl vb) : IsD w' D s' vl vb vt := by
  subst hc
  exact ⟨hA.str, keep_row hD hl (by decide) hA.but, keep_row hD hb (by decide) hA.but, keep_row hD ht (by decide) hA.but, hs⟩
theorem IsD.lt {w : World} {D : Nat} {s : DS} {vl vb vt : Value} (h : IsD w D s vl vb vt) : ∀ x, x ∈ ft D vl vb vt → x < w.heap.size := by
  intro x hx
  unfold ft at hx
  simp at hx
  rcases hx with rfl | hx | hx | hx
  · exact (Array.getElem?_eq_some_iff.1 h.str).1
  · exact (World.ownsRow.lt h.line x hx).2
  · exact (World.ownsRow.lt h.body x hx).2
  · exact (World.ownsRow.lt h.tr x hx).2
theorem Dec.lt {w : World} {D : Nat} {s : DS} {bs : List Nat} (h : Dec w D s bs) : ∀ x, x ∈ bs → x < w.heap.size := by
  obtain ⟨vl, vb, vt, H, rfl⟩ := h
  exact H.lt
theorem Dec.mem {w : World} {D : Nat} {s : DS} {bs : List Nat} (h : Dec w D s bs) : D ∈ bs := by
  obtain ⟨vl, vb, vt, H, rfl⟩ := h
  simp [ft]
/-- What turns other blocks alone leaves a decoder. -/
theorem IsD.but {w w' : World} {cs : List Nat} {D : Nat} {s : DS} {vl vb vt : Value} (h : IsD w D s vl vb vt) (hb : But cs w w') (hn : ∀ x, x ∈ ft D vl vb vt → x ∉ cs) : IsD w' D s vl vb vt :=
  ⟨hb.heap h.str (hn D (by simp [ft])), hb.owns h.line (fun g hg => hn g (by simp [ft, hg])), hb.owns h.body (fun g hg => hn g (by simp [ft, hg])), hb.owns h.tr (fun g hg => hn g (by simp [ft, hg])), h.sep⟩
theorem Dec.but {w w' : World} {cs : List Nat} {D : Nat} {s : DS} {bs : List Nat} (h : Dec w D s bs) (hb : But cs w w') (hn : ∀ x, x ∈ bs → x ∉ cs) : Dec w' D s bs := by
  obtain ⟨vl, vb, vt, H, rfl⟩ := h
  exact ⟨vl, vb, vt, H.but hb hn, rfl⟩
theorem Dec.below {w w' : World} {D : Nat} {s : DS} {bs : List Nat} (h : Dec w D s bs) (hb : Below w.heap.size w w') : Dec w' D s bs := h.but (But.of_below hb) (fun _ _ e => by cases e)
theorem IsD.below {w w' : World} {D : Nat} {s : DS} {vl vb vt : Value} (h : IsD w D s vl vb vt) (hb : Below w.heap.size w w') : IsD w' D s vl vb vt := h.but (But.of_below hb) (fun _ _ e => by cases e)
theorem goes_ft {w w' : World} {D : Nat} {vl vb vt vl' vb' vt' : Value} (hb : But (ft D vl vb vt) w w') (h1 : ∀ g, vl'.ownBlock = some g → vl.ownBlock = some g ∨ w.heap.size ≤ g) (h2 : ∀ g, vb'.ownBlock = some g → vb.ownBlock = some g ∨ w.heap.size ≤ g) (h3 : ∀ g, vt'.ownBlock = some g → vt.ownBlock = some g ∨ w.heap.size ≤ g) : Goes (ft D vl vb vt) w (ft D vl' vb' vt') w' := by
  refine ⟨hb, fun x hx => ?_⟩
  unfold ft at hx ⊢
  simp at hx ⊢
  rcases hx with rfl | hx | hx | hx
  · exact .inl (.inl rfl)
  · rcases h1 x hx with e | e
    · exact .inl (.inr (.inl e))
    · exact .inr e
  · rcases h2 x hx with e | e
    · exact .inl (.inr (.inr (.inl e)))
    · exact .inr e
  · rcases h3 x hx with e | e
    · exact .inl (.inr (.inr (.inr e)))
    · exact .inr e
theorem At.ftd {w w' : World} {D : Nat} {cs : Array Value} (h : At w w' D cs) (vl vb vt : Value) : But (ft D vl vb vt) w w' := h.but.mono (fun x hx => by simp at hx; subst hx; simp [ft])

set_option maxHeartbeats 1000000 in
theorem end_any {w : World} {D : Nat} {s : DS} {bs : List Nat} (H : Dec w D s bs) (e : Int) :
    Calls Tryz.prog 53 #[.pointer (some ⟨D, 0, none⟩), .int .i64 e] w fun ex w' => ex = .returned (.tuple #[]) ∧ ∃ bs', Dec w' D (fin s e) bs' ∧ Goes bs w bs' w' := by
  obtain ⟨vl, vb, vt, H, rfl⟩ := H
  have HH : Hid (IsD w D s vl vb vt) := H
  obtain ⟨c0, c1, c2, c3, c4, c5, c6, c7, c8, c9, c10, cf⟩ := row11 H.str
  clear H
  go_enter Tryz.func53, Tryz.ntmps53
  go_wp2
  go_end0
  have hA := (((HH.out.at.set 0 .nilFunc).set 8 (.slice none 0 0)).set 2 (.int .i64 e)).set 1 (.bool (e == 0))
  refine ⟨rfl, _, ⟨.slice none 0 0, vb, vt, IsD.build HH.out.str hA rfl (World.ownsRow_nil _ _ _ _) HH.out.body HH.out.tr (Sep.nil _), rfl⟩, goes_ft (hA.ftd _ _ _) (fun g h => by cases h) (fun g h => .inl h) (fun g h => .inl h)⟩

theorem own_zero {w : World} {a : Option Addr} {n c : Nat} {l : List UInt8} (h : Own 0 (.slice a n c) l w) : Own 0 (.slice a 0 c) [] w := by
  refine ⟨rfl, ?_⟩
  rcases h.2 with ⟨e, _⟩ | ⟨g, cap, cur, e, hb, hg, hn, hm, hs, _⟩
  · injection e with e1 e2 e3
    subst e1 e3
    exact .inl ⟨rfl, rfl⟩
  · injection e with e1 e2 e3
    subst e1 e3
    exact .inr ⟨g, c, cur, rfl, hb, hg, Nat.zero_le _, hm, hs, by simp [Lib.byteCells]⟩
theorem own_form {w : World} {B : Nat} {v : Value} {l : List UInt8} (h : Own B v l w) : ∃ a c, v = .slice a l.length c ∧ l.length ≤ c ∧ c ≤ maxLen ∧ ((a = none ∧ c = 0) ∨ ∃ g, a = some ⟨g, 0, none⟩) := by
  rcases h.2 with ⟨rfl, h0⟩ | ⟨g, cap, cur, rfl, _, _, hn, hm, _⟩
  · exact ⟨none, 0, by rw [h0], by omega, by simp [maxLen], .inl ⟨rfl, rfl⟩⟩
  · exact ⟨_, cap, rfl, hn, hm, .inr ⟨g, rfl⟩⟩

set_option maxHeartbeats 1000000 in
theorem takeLine_any {w : World} {D : Nat} {s : DS} {bs : List Nat} (H : Dec w D s bs) (hl : s.line.length ≤ 4000000000) (hne : s.line ≠ []) :
    Calls Tryz.prog 70 #[.pointer (some ⟨D, 0, none⟩)] w fun ex w' => ex = .returned (.tuple #[.string (str (said s)), .bool (right s)]) ∧ ∃ bs', Dec w' D (bare s) bs' ∧ Goes bs w bs' w' := by
  obtain ⟨vl, vb, vt, H, rfl⟩ := H
  have HH : Hid (IsD w D s vl vb vt) := H
  obtain ⟨a, c, rfl, hac, hcm, ha⟩ := own_form H.line
  obtain ⟨g, rfl⟩ : ∃ g, a = some ⟨g, 0, none⟩ := by
    rcases ha with ⟨_, h0⟩ | h
    · exact absurd (List.length_eq_zero_iff.1 (by omega)) hne
    · exact h
  obtain ⟨c0, c1, c2, c3, c4, c5, c6, c7, c8, c9, c10, cf⟩ := row11 H.str
  have hcv : (convert 72 9 (.slice (some ⟨g, 0, none⟩) s.line.length c)).run Tryz.prog w = .ok (.string (str s.line)) w := own_back H.line
  have HC : Hid (Calls Tryz.prog 85 #[.string (str s.line), .string ⟨#[13, 10]⟩] w fun e w' => e = .returned (.tuple #[.string (str (said s)), .bool (right s)]) ∧ w' = w) := by
    have h := Tryz.strings_CutSuffix (str s.line) ⟨#[13, 10]⟩ w (by rw [str_size]; omega)
    rw [str_list] at h
    exact h
  unfold maxLen at hcm
  generalize str s.line = L at *
  generalize hn : s.line.length = n at *
  clear H ha hne
  go_enter Tryz.func70, Tryz.ntmps70
  go_wp2_with fail
  refine HC.out.mono ?_
  rintro e w' ⟨rfl, hw⟩
  rw [hw]
  go_wp2
  go_ret2
  have hA := HH.out.at.set 8 (.slice (some ⟨g, 0, none⟩) 0 c)
  refine ⟨rfl, _, ⟨.slice (some ⟨g, 0, none⟩) 0 c, vb, vt, IsD.build HH.out.str hA rfl (own_zero HH.out.line) HH.out.body HH.out.tr HH.out.sep.of, rfl⟩, goes_ft (hA.ftd _ _ _) (fun g h => .inl h) (fun g h => .inl h) (fun g h => .inl h)⟩

end Ck
end Go.Proofs.YtifhbjkgdnemjaaGreatDoor
