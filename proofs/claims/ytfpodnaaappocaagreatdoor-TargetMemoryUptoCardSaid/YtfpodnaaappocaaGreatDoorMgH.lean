/- Several texts as one. -/
import Derived.Test.YtfpodnaaappocaaGreatDoorMgG
import Derived.Laws.BytesArg
import Derived.Test.YtfpodnaaappocaaGreatDoorMgE
import Derived.WalkMore
/-
  The document's Quote.
-/
set_option linter.unusedVariables false
set_option linter.unusedSimpArgs false
namespace Go.Proofs.YtfpodnaaappocaaGreatDoor
open Go.RowKit Go.Shelf
namespace Oc

/-- A slice of bytes of the call's own. -/
def Own (B : Nat) (v : Value) (l : List UInt8) (w : World) : Prop := w.ownsRow B 5 1 v l.length (Lib.byteCells l)
theorem Own.alloc {B : Nat} {v : Value} {l : List UInt8} {w : World} (h : Own B v l w) (o : Obj) : Own B v l (w.alloc o) := World.ownsRow.alloc h o
theorem own_back {B : Nat} {v : Value} {l : List UInt8} {w : World} (h : Own B v l w) : (convert 61 9 v).run Tryz.prog w = .ok (.string (str l)) w := by
  rcases h.2 with ⟨rfl, h0⟩ | ⟨g, cap, cur, rfl, _, hg, hn, _, hsz, htake⟩
  · have e : l = [] := List.length_eq_zero_iff.1 h0
    subst e
    rw [run_convert_bytes_nil (P := Tryz.prog) w 61 5 Tryz.underlying61 Tryz.underlying5 0 0 9 Tryz.underlying9]
    rfl
  · refine run_convert_bytes_back w 61 9 5 ⟨g, 0, none⟩ cap l Tryz.underlying61 Tryz.underlying5 Tryz.underlying9 (fun j hj => ?_)
    refine World.ownsRow.cells h (g := g) rfl j _ ?_
    simp [Lib.byteCells, hj]
theorem own_one (w : World) (c : Int) (u : UInt8) (h : c = (u.toNat : Int)) : Own w.heap.size (.slice (some ⟨w.heap.size, 0, none⟩) 1 1) [u] (w.alloc (.cells #[.int .u8 c] 5)) := by
  subst h
  refine ⟨by simp [Lib.byteCells], .inr ⟨w.heap.size, 1, #[.int .u8 (u.toNat : Int)], rfl, Nat.le_refl _, heap_alloc_new w _, by simp, by decide, by simp, by simp [Lib.byteCells]⟩⟩
theorem own_snoc {B : Nat} {v : Value} {l : List UInt8} {u : UInt8} {w : World} (h : w.ownsRow B 5 1 v (l.length + 1) (Lib.byteCells l ++ [.int .u8 (u.toNat : Int)])) : Own B v (l ++ [u]) w := by
  rw [cells_snoc] at h
  unfold Own
  rw [List.length_append]
  exact h

theorem info5 : ∃ i, Tryz.prog.info? 5 = some i ∧ i.zero = some (.int .u8 0) ∧ i.size = 1 ∧ i.bytes = 1 := by
  obtain ⟨i0, hi, hz0, hz1, hz2⟩ := info_parts infoByte
  exact ⟨i0, hi, hz0, hz1, hz2⟩
/-- A byte appended to a slice of the call's own. -/
theorem wp_app {ops : Array Oper} {rest : List Oper} {o : Oper} {a : Act} {Q : Exit → Act → World → Prop} (hgd : o.guard = none) (s x : Operand)
    (ho : o.op = .call { callee := .builtin .append, args := #[s, x], argTypes := #[61, 61] }) (B : Nat) (v : Value) (l : List UInt8) (W : World) (c : Int) (u : UInt8) (hc : c = (u.toNat : Int))
    (hs : a.eval s = v) (hown : Own B v l W) (hx : a.eval x = .slice (some ⟨W.heap.size, 0, none⟩) 1 1) (hlen : l.length + 1 ≤ 140737488355328) (hB : B ≤ W.heap.size)
    (h : ∀ v' w', Own B v' (l ++ [u]) w' → Below B W w' → Marked W w' → wpList Tryz.prog ops Q rest (a.put o.dst v') w') : wpList Tryz.prog ops Q (o :: rest) a (W.alloc (.cells #[.int .u8 c] 5)) := by
  obtain ⟨i0, hi, hz0, hz1, hz2⟩ := info5
  refine wpList_append_own _ hgd s x 61 ho B 5 i0 (.int .u8 0) 1 1 Tryz.underlying61 hi hz0 hz1 hz2 rfl (by decide) v l.length _ hs (World.ownsRow.alloc hown _) ⟨W.heap.size, 0, none⟩ 1 1 [.int .u8 c] hx rfl ?_ ?_ ?_ ?_ ?_ ?_
  · intro j u hj
    match j, hj with
    | 0, hj => simp at hj; subst hj; simp [Addr.add]
  · intro u hu; simp at hu; subst hu; rfl
  · unfold maxLen; omega
  · omega
  · simp; omega
  · intro v' w' h1 h2 _
    subst hc
    exact h v' w' (own_snoc h1) (((Below.refl B W).alloc hB _).grown h2 (by simp; omega) (fun k hk => (World.ownsRow.lt hown k hk).1)) ((marked_alloc W _).trans (marked_grown h2 (World.ownsRow.alloc hown _)))

end Oc
end Go.Proofs.YtfpodnaaappocaaGreatDoor

/-
  octet.quotedLength.
-/
set_option linter.unusedVariables false
set_option linter.unusedSimpArgs false
namespace Go.Proofs.YtfpodnaaappocaaGreatDoor
open Go.RowKit Go.Shelf
namespace Oc

theorem prefix_quote (s : ByteArray) : Lib.hasPrefix s.data.toList (⟨#[34]⟩ : ByteArray).data.toList = decide (0 < s.size ∧ byt s 0 = 34) := by
  unfold Lib.hasPrefix byt
  rw [← size_list]
  cases s.data.toList with
  | nil => simp
  | cons c l =>
    have e : (⟨#[34]⟩ : ByteArray).data.toList = [34] := rfl
    rw [e, Bool.eq_iff_iff, decide_eq_true_iff]
    simp only [List.isPrefixOf_cons_cons, List.isPrefixOf_nil_left, Bool.and_true, beq_iff_eq, List.length_cons, List.getD_cons_zero]
    constructor
    · intro h; subst h; exact ⟨by omega, rfl⟩
    · rintro ⟨_, h⟩
      exact (UInt8.toNat_inj.1 (by show c.toNat = 34; omega)).symm

theorem qlen_none (s : ByteArray) (h : ¬ (0 < s.size ∧ byt s 0 = 34)) : qlen s.data.toList = 0 := by
  by_cases hz : s.size = 0
  · rw [List.length_eq_zero_iff.1 ((size_list s).trans hz)]; rfl
  · rw [cons_of hz]
    rw [qlen_cons, if_neg]
    intro e
    apply h
    refine ⟨by omega, ?_⟩
    unfold byt
    rw [e]
    rfl
theorem qlen_some (s : ByteArray) (h : 0 < s.size) (h2 : byt s 0 = 34) : qlen s.data.toList = plusOne (qscan false (s.data.toList.drop 1)) := by
  rw [cons_of (by omega)]
  have e : s.data.toList.getD 0 0 = 34 := UInt8.toNat_inj.1 (by unfold byt at h2; show _ = 34; omega)
  rw [e, qlen_cons, if_pos rfl]
  rfl

theorem drop_cons (T : List UInt8) (k : Nat) (h : k < T.length) : T.drop k = T.getD k 0 :: T.drop (k + 1) := by
  rw [List.drop_eq_getElem_cons h, List.getD_eq_getElem?_getD, List.getElem?_eq_getElem h]
  rfl
theorem scan_field (e : Bool) (c : UInt8) (l : List UInt8) (h : fieldB c = false) : qscan e (c :: l) = none := by rw [qscan, if_pos h]
theorem scan_esc (c : UInt8) (l : List UInt8) (h : fieldB c = true) : qscan true (c :: l) = (qscan false l).map (· + 1) := by rw [qscan, if_neg (by simp [h]), if_pos rfl]
theorem scan_back (c : UInt8) (l : List UInt8) (h : c = 92) : qscan false (c :: l) = (qscan true l).map (· + 1) := by subst h; rw [qscan, if_neg (by decide), if_neg (by simp), if_pos rfl]
theorem scan_end (c : UInt8) (l : List UInt8) (h : c = 34) : qscan false (c :: l) = some 1 := by subst h; rw [qscan, if_neg (by decide), if_neg (by simp), if_neg (by decide), if_pos rfl]
theorem scan_on (c : UInt8) (l : List UInt8) (h : fieldB c = true) (h1 : c ≠ 92) (h2 : c ≠ 34) : qscan false (c :: l) = (qscan false l).map (· + 1) := by rw [qscan, if_neg (by simp [h]), if_neg (by simp), if_neg h1, if_neg h2]
theorem map_shift (o : Option Nat) (k : Nat) : ((o.map (· + 1)).map (· + k)) = o.map (· + (k + 1)) := by
  cases o with
  | none => rfl
  | some x => simp; omega

end Oc
end Go.Proofs.YtfpodnaaappocaaGreatDoor
