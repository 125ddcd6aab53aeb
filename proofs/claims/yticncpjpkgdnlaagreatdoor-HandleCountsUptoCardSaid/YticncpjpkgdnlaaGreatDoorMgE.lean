/- Several texts as one. -/
import Derived.Test.YticncpjpkgdnlaaGreatDoorMgA
import Derived.Shelf.Strings.Builder1
import Derived.Test.YticncpjpkgdnlaaGreatDoorMgD
import Derived.Test.YticncpjpkgdnlaaGreatDoorMgB
import Derived.Laws.BytesArg
import Derived.WalkMore
/-
  A strings.Builder of one's own: a byte written. The frame says that rows with a mark (conversions of strings) stay.
-/
set_option linter.unusedVariables false
set_option linter.unusedSimpArgs false
namespace Go.Proofs.YticncpjpkgdnlaaGreatDoor
open Go.RowKit Go.Shelf
namespace Oc

theorem sizeB : (Tryz.prog.info? 58).map (·.size) = some 2 := by kernel_rfl
theorem liesB : liesAt Tryz.prog Tryz.prog.depth 58 (2 / Tryz.prog.cellsOf 58) 0 58 1 = true := by kernel_rfl

theorem infoByte : (Tryz.prog.info? 5).map (fun i => (i.zero, i.size, i.bytes)) = some (some (.int .u8 0), 1, 1) := by kernel_rfl

/-- Rows with a mark stay as they are. -/
def Marked (w w' : World) : Prop := ∀ (k : Nat) (C : Array Value) (t : TypeId) (m : Nat × Nat), w.heap[k]? = some (Obj.cells C t m) → m ≠ (0, 0) → w'.heap[k]? = w.heap[k]?
theorem Marked.refl (w : World) : Marked w w := fun _ _ _ _ _ _ => rfl
theorem Marked.trans {a b c : World} (h : Marked a b) (g : Marked b c) : Marked a c := fun k C t m hk hm => by
  have h1 := h k C t m hk hm
  rw [g k C t m (h1.trans hk) hm, h1]

set_option maxHeartbeats 1000000 in
set_option maxRecDepth 100000 in
theorem copyCheck_used (b : Nat) (w : World) (h0 : w.cell? ⟨b, 0, none⟩ = some (.pointer (some ⟨b, 0, none⟩))) :
    Calls Tryz.prog 79 #[.pointer (some ⟨b, 0, none⟩)] w fun e w' => e = .returned (.tuple #[]) ∧ w' = w := by
  obtain ⟨j, hj, _⟩ := Option.map_eq_some_iff.1 sizeB
  go_enter Tryz.func79, Tryz.ntmps79
  go_wp2
  rw [Lib.run_neq_ptr_same w _ Tryz.underlying56 hj]
  go_wp2
  go_end0
  exact ⟨rfl, rfl⟩

set_option maxHeartbeats 1000000 in
set_option maxRecDepth 100000 in
theorem copyCheck_fresh (b : Nat) (w : World) (h0 : w.cell? ⟨b, 0, none⟩ = some (.pointer none)) (hsh : w.shape? b = some (58, 2)) (hfz : w.frozen? ⟨b, 0, none⟩ = false) :
    Calls Tryz.prog 79 #[.pointer (some ⟨b, 0, none⟩)] w fun e w' => e = .returned (.tuple #[]) ∧ w' = w.setCell ⟨b, 0, none⟩ (.pointer (some ⟨b, 0, none⟩)) := by
  obtain ⟨j, hj, hjs⟩ := Option.map_eq_some_iff.1 sizeB
  go_enter Tryz.func79, Tryz.ntmps79
  go_wp2
  rw [Lib.run_to_unsafe w ⟨b, 0, none⟩ Tryz.underlying56 Tryz.underlying161 hj (by rw [hjs]; decide) hsh (Nat.zero_lt_succ 1)]
  simp only [Result.andThen]
  rw [Oper.upon_value]
  go_wp2
  rw [run_callFunc_extern Tryz.func127 (by kernel_rfl) (by kernel_rfl) (by kernel_rfl) (e := Extern.AbiNoEscape.same) (by kernel_rfl)]
  rw [Lib.run_noEscape]
  simp only [Result.andThen]
  rw [Oper.upon_value]
  go_wp2
  rw [Lib.run_from_unsafe w ⟨b, 0, none⟩ Tryz.underlying161 Tryz.underlying56 hj hsh liesB]
  simp only [Result.andThen]
  rw [Oper.upon_value]
  go_wp2
  go_end0
  exact ⟨rfl, rfl⟩

theorem marked_set {w : World} {b j : Nat} {cs : Array Value} {T : TypeId} (hb : w.heap[b]? = some (.cells cs T (0, 0))) (v : Value) : Marked w (w.setCell ⟨b, j, none⟩ v) := by
  intro k C t m hk hm
  refine Below.heap_setCell _ _ _ _ (fun e => ?_)
  have e : k = b := e
  subst e
  rw [hb] at hk
  simp only [Option.some.injEq, Obj.cells.injEq] at hk
  exact hm hk.2.2.symm
theorem marked_grown {w w' : World} {B : Nat} {v : Value} {n : Nat} {xs : List Value} (hg : w.grownBy w' v.ownBlock) (ho : w.ownsRow B 5 1 v n xs) : Marked w w' := by
  intro k C t m hk hm
  have hlt : k < w.heap.size := by
    rcases Nat.lt_or_ge k w.heap.size with h | h
    · exact h
    · simp [Array.getElem?_eq_none h] at hk
  refine hg.block k hlt (fun e => ?_)
  rcases ho.2 with ⟨rfl, _⟩ | ⟨g, cap, cur, rfl, _, hgg, _⟩
  · simp [Value.ownBlock] at e
  · simp only [Value.ownBlock, Option.some.injEq] at e
    subst e
    rw [hgg] at hk
    simp only [Option.some.injEq, Obj.cells.injEq] at hk
    exact hm hk.2.2.symm
theorem marked_alloc (w : World) (o : Obj) : Marked w (w.alloc o) := by
  intro k C t m hk hm
  have hlt : k < w.heap.size := by
    rcases Nat.lt_or_ge k w.heap.size with h | h
    · exact h
    · simp [Array.getElem?_eq_none h] at hk
  exact Lib.alloc_old w o k hlt

theorem copyCheck_any (B b : Nat) (bs : List Value) (w : World) (h : Lib.IsBuilder 58 5 B b bs w) :
    Calls Tryz.prog 79 #[.pointer (some ⟨b, 0, none⟩)] w fun e w' => e = .returned (.tuple #[]) ∧ (Lib.BuilderAt 58 5 B b (.pointer (some ⟨b, 0, none⟩)) bs w' ∧ Below B w w' ∧ Marked w w') := by
  rcases h with h | h
  · refine (copyCheck_fresh b w h.cell0 h.shape h.frozen0).mono ?_
    rintro e w' ⟨rfl, rfl⟩
    refine ⟨rfl, h.used _, (Below.refl B w).setCell (p := ⟨b, 0, none⟩) h.1 _, ?_⟩
    obtain ⟨_, v, hb, _⟩ := h
    exact marked_set hb _
  · refine (copyCheck_used b w h.cell0).mono ?_
    rintro e w' ⟨rfl, rfl⟩
    exact ⟨rfl, h, Below.refl B _, Marked.refl _⟩

set_option maxHeartbeats 2000000 in
set_option maxRecDepth 100000 in
theorem WriteByte_any (B b : Nat) (bs : List Value) (c : Int) (w : World) (h : Lib.IsBuilder 58 5 B b bs w) (hlen : bs.length + 1 ≤ 140737488355328) (hBw : B ≤ w.heap.size) :
    Calls Tryz.prog 82 #[.pointer (some ⟨b, 0, none⟩), .int .u8 c] w fun e w' => e = .returned .nilIface ∧ (Lib.BuilderAt 58 5 B b (.pointer (some ⟨b, 0, none⟩)) (bs ++ [.int .u8 c]) w' ∧ Below B w w' ∧ Marked w w') := by
  obtain ⟨i0, hi, hz0, hz1, hz2⟩ := info_parts infoByte
  go_enter Tryz.func82, Tryz.ntmps82
  go_wp2_with fail
  refine (copyCheck_any B b bs _ h).mono ?_
  rintro e w1 ⟨rfl, h1, hb1, hm1⟩
  obtain ⟨hB, v, hbk, hown, hne⟩ := h1
  have c0 : w1.cell? ⟨b, 0, none⟩ = some (.pointer (some ⟨b, 0, none⟩)) := by rw [Lib.cell_of_heap hbk]; rfl
  have c1 : w1.cell? ⟨b, 1, none⟩ = some v := by rw [Lib.cell_of_heap hbk]; rfl
  have HM1 : Hid (Marked w w1) := hm1
  clear hm1
  go_wp2_with (at_builtin; refine wpList_append_own _ rfl _ _ 42 rfl B 5 i0 (.int .u8 0) 1 1 Tryz.underlying42 hi hz0 hz1 hz2 rfl (by decide) _ _ _ rfl (hown.alloc _) ⟨w1.heap.size, 0, none⟩ 1 1 [.int .u8 c] rfl rfl ?c1 ?c2 ?c3 ?c4 ?c5 ?_)
  case c1 =>
    intro j u hj
    match j, hj with
    | 0, hj => simp at hj; subst hj; simp [Addr.add]
  case c2 => intro u hu; simp at hu; subst hu; rfl
  case c3 => unfold maxLen; omega
  case c4 => omega
  case c5 => have := hb1.size; simp; omega
  intro v' w2 hown' hgrow _
  have hlt : b < w1.heap.size := by
    rcases Nat.lt_or_ge b w1.heap.size with h' | h'
    · exact h'
    · simp [Array.getElem?_eq_none h'] at hbk
  have hb2 : w2.heap[b]? = some (.cells #[.pointer (some ⟨b, 0, none⟩), v] 58 (0, 0)) := by
    rw [hgrow.block b (by simp; omega) (fun e => hne e.symm), Lib.alloc_old w1 _ b hlt]
    exact hbk
  have d0 : w2.cell? ⟨b, 0, none⟩ = some (.pointer (some ⟨b, 0, none⟩)) := by rw [Lib.cell_of_heap hb2]; rfl
  have d1 : w2.cell? ⟨b, 1, none⟩ = some v := by rw [Lib.cell_of_heap hb2]; rfl
  have f1 : w2.frozen? ⟨b, 1, none⟩ = false := Lib.frozen_of_heap hb2 1
  obtain ⟨g, cap, rfl⟩ : ∃ g cap, v' = .slice (some ⟨g, 0, none⟩) (bs.length + 1) cap := by
    rcases hown'.2 with ⟨_, h0⟩ | ⟨g, cap, cur, hv, _⟩
    · omega
    · exact ⟨g, cap, hv⟩
  have HM2 : Hid (Marked w w2) := (HM1.out.trans (marked_alloc w1 _)).trans (marked_grown hgrow (hown.alloc _))
  go_wp2
  go_ret
  refine ⟨rfl, ?_, ?_, ?_⟩
  · exact Lib.BuilderAt.put (T := 58) (e := 5) hB hb2 (bs' := bs ++ [.int .u8 c]) (by simpa using hown') (by decide)
  · exact ((hb1.alloc (by have := hb1.size; omega) _).grown hgrow (by have := hb1.size; simp; omega) (fun k hk => (hown.lt k hk).1)).setCell (p := ⟨b, 1, none⟩) hB _
  · exact HM2.out.trans (marked_set hb2 _)

end Oc
end Go.Proofs.YticncpjpkgdnlaaGreatDoor

/-
  octet.Quote.
-/
set_option linter.unusedVariables false
set_option linter.unusedSimpArgs false
namespace Go.Proofs.YticncpjpkgdnlaaGreatDoor
open Go.RowKit Go.Shelf
namespace Oc

abbrev BldU (B b : Nat) (l : List UInt8) (w : World) : Prop := Lib.BuilderAt 58 5 B b (.pointer (some ⟨b, 0, none⟩)) (Lib.byteCells l) w

theorem cells_snoc (l : List UInt8) (c : UInt8) : Lib.byteCells l ++ [.int .u8 (c.toNat : Int)] = Lib.byteCells (l ++ [c]) := by simp [Lib.byteCells]
theorem cells_len (l : List UInt8) : (Lib.byteCells l).length = l.length := by simp [Lib.byteCells]

/-- A builder of no bytes, new. -/
theorem bld_new (w : World) : Lib.BuilderAt 58 5 w.heap.size w.heap.size (.pointer none) (Lib.byteCells []) (w.alloc (.cells #[.pointer none, .slice none 0 0] 58)) := by
  refine ⟨Nat.le_refl _, .slice none 0 0, heap_alloc_new w _, World.ownsRow_nil _ _ _ _, by simp [Value.ownBlock]⟩

theorem grown_bytes (w : World) (s : ByteArray) : w.grownBy (Lib.bytesWorld w 5 s) none :=
  ⟨(below_bytes w 5 s).os, (below_bytes w 5 s).tape, (below_bytes w 5 s).output, (below_bytes w 5 s).size, fun k hk _ => Lib.bytesWorld_at_old w 5 s k hk⟩
theorem bld_bytes {B b : Nat} {p : Value} {bs : List Value} {w : World} (h : Lib.BuilderAt 58 5 B b p bs w) (s : ByteArray) : Lib.BuilderAt 58 5 B b p bs (Lib.bytesWorld w 5 s) := by
  have hlt := h.lt
  obtain ⟨hB, v, hb, hown, hne⟩ := h
  refine ⟨hB, v, by rw [Lib.bytesWorld_at_old w 5 s b hlt]; exact hb, hown.kept (grown_bytes w s) ?_, hne⟩
  cases hv : v.ownBlock with
  | none => exact .inl rfl
  | some k => exact .inr (by simp)

/-- The row of a conversion, as it was laid. -/
def RowAt (w2 : World) (s : ByteArray) (w : World) : Prop := w.heap[w2.heap.size]? = (Lib.bytesWorld w2 5 s).heap[w2.heap.size]?
theorem RowAt.cell {w2 w : World} {s : ByteArray} (h : RowAt w2 s w) (j : Nat) (hj : j < s.size) : w.cell? ⟨w2.heap.size, j, none⟩ = some (.int .u8 (byt s j)) := by
  rw [World.cell?_of_block (w := Lib.bytesWorld w2 5 s) (a := ⟨w2.heap.size, j, none⟩) h]
  exact bytes_cell w2 5 s j hj
theorem RowAt.marked {w2 w w' : World} {s : ByteArray} (h : RowAt w2 s w) (m : Marked w w') : RowAt w2 s w' := by
  have h1 := h
  unfold RowAt at h1
  rw [Lib.bytesWorld_at_new] at h1
  unfold RowAt
  rw [m _ _ _ _ h1 (by simp)]
  exact h

end Oc
end Go.Proofs.YticncpjpkgdnlaaGreatDoor

/-
  The document's Quote.
-/
set_option linter.unusedVariables false
set_option linter.unusedSimpArgs false
namespace Go.Proofs.YticncpjpkgdnlaaGreatDoor
open Go.RowKit Go.Shelf
namespace Oc

/-- A slice of bytes of the call's own. -/
def Own (B : Nat) (v : Value) (l : List UInt8) (w : World) : Prop := w.ownsRow B 5 1 v l.length (Lib.byteCells l)
theorem Own.alloc {B : Nat} {v : Value} {l : List UInt8} {w : World} (h : Own B v l w) (o : Obj) : Own B v l (w.alloc o) := World.ownsRow.alloc h o
theorem own_back {B : Nat} {v : Value} {l : List UInt8} {w : World} (h : Own B v l w) : (convert 42 9 v).run Tryz.prog w = .ok (.string (str l)) w := by
  rcases h.2 with ⟨rfl, h0⟩ | ⟨g, cap, cur, rfl, _, hg, hn, _, hsz, htake⟩
  · have e : l = [] := List.length_eq_zero_iff.1 h0
    subst e
    rw [run_convert_bytes_nil (P := Tryz.prog) w 42 5 Tryz.underlying42 Tryz.underlying5 0 0 9 Tryz.underlying9]
    rfl
  · refine run_convert_bytes_back w 42 9 5 ⟨g, 0, none⟩ cap l Tryz.underlying42 Tryz.underlying5 Tryz.underlying9 (fun j hj => ?_)
    refine World.ownsRow.cells h (g := g) rfl j _ ?_
    simp [Lib.byteCells, hj]
theorem own_one (w : World) (c : Int) (u : UInt8) (h : c = (u.toNat : Int)) : Own w.heap.size (.slice (some ⟨w.heap.size, 0, none⟩) 1 1) [u] (w.alloc (.cells #[.int .u8 c] 5)) := by
  subst h
  refine ⟨by simp [Lib.byteCells], .inr ⟨w.heap.size, 1, #[.int .u8 (u.toNat : Int)], rfl, Nat.le_refl _, heap_alloc_new w _, by simp, by decide, by simp, by simp [Lib.byteCells]⟩⟩
theorem own_snoc {B : Nat} {v : Value} {l : List UInt8} {u : UInt8} {w : World} (h : w.ownsRow B 5 1 v (l.length + 1) (Lib.byteCells l ++ [.int .u8 (u.toNat : Int)])) : Own B v (l ++ [u]) w := by
  rw [cells_snoc] at h
  unfold Own
  rw [List.length_append]
  exact h

theorem info5 : ∃ i, Tryz.prog.info? 5 = some i ∧ i.zero = some (.int .u8 0) ∧ i.size = 1 ∧ i.bytes = 1 := by
  obtain ⟨i0, hi, hz0, hz1, hz2⟩ := info_parts infoByte
  exact ⟨i0, hi, hz0, hz1, hz2⟩
/-- A byte appended to a slice of the call's own. -/
theorem wp_app {ops : Array Oper} {rest : List Oper} {o : Oper} {a : Act} {Q : Exit → Act → World → Prop} (hgd : o.guard = none) (s x : Operand)
    (ho : o.op = .call { callee := .builtin .append, args := #[s, x], argTypes := #[42, 42] }) (B : Nat) (v : Value) (l : List UInt8) (W : World) (c : Int) (u : UInt8) (hc : c = (u.toNat : Int))
    (hs : a.eval s = v) (hown : Own B v l W) (hx : a.eval x = .slice (some ⟨W.heap.size, 0, none⟩) 1 1) (hlen : l.length + 1 ≤ 140737488355328) (hB : B ≤ W.heap.size)
    (h : ∀ v' w', Own B v' (l ++ [u]) w' → Below B W w' → Marked W w' → wpList Tryz.prog ops Q rest (a.put o.dst v') w') : wpList Tryz.prog ops Q (o :: rest) a (W.alloc (.cells #[.int .u8 c] 5)) := by
  obtain ⟨i0, hi, hz0, hz1, hz2⟩ := info5
  refine wpList_append_own _ hgd s x 42 ho B 5 i0 (.int .u8 0) 1 1 Tryz.underlying42 hi hz0 hz1 hz2 rfl (by decide) v l.length _ hs (World.ownsRow.alloc hown _) ⟨W.heap.size, 0, none⟩ 1 1 [.int .u8 c] hx rfl ?_ ?_ ?_ ?_ ?_ ?_
  · intro j u hj
    match j, hj with
    | 0, hj => simp at hj; subst hj; simp [Addr.add]
  · intro u hu; simp at hu; subst hu; rfl
  · unfold maxLen; omega
  · omega
  · simp; omega
  · intro v' w' h1 h2 _
    subst hc
    exact h v' w' (own_snoc h1) (((Below.refl B W).alloc hB _).grown h2 (by simp; omega) (fun k hk => (World.ownsRow.lt hown k hk).1)) ((marked_alloc W _).trans (marked_grown h2 (World.ownsRow.alloc hown _)))

end Oc
end Go.Proofs.YticncpjpkgdnlaaGreatDoor

/-
  octet.quotedLength.
-/
set_option linter.unusedVariables false
set_option linter.unusedSimpArgs false
namespace Go.Proofs.YticncpjpkgdnlaaGreatDoor
open Go.RowKit Go.Shelf
namespace Oc

theorem prefix_quote (s : ByteArray) : Lib.hasPrefix s.data.toList (⟨#[34]⟩ : ByteArray).data.toList = decide (0 < s.size ∧ byt s 0 = 34) := by
  unfold Lib.hasPrefix byt
  rw [← size_list]
  cases s.data.toList with
  | nil => simp
  | cons c l =>
    have e : (⟨#[34]⟩ : ByteArray).data.toList = [34] := rfl
    rw [e, Bool.eq_iff_iff, decide_eq_true_iff]
    simp only [List.isPrefixOf_cons_cons, List.isPrefixOf_nil_left, Bool.and_true, beq_iff_eq, List.length_cons, List.getD_cons_zero]
    constructor
    · intro h; subst h; exact ⟨by omega, rfl⟩
    · rintro ⟨_, h⟩
      exact (UInt8.toNat_inj.1 (by show c.toNat = 34; omega)).symm

theorem qlen_none (s : ByteArray) (h : ¬ (0 < s.size ∧ byt s 0 = 34)) : qlen s.data.toList = 0 := by
  by_cases hz : s.size = 0
  · rw [List.length_eq_zero_iff.1 ((size_list s).trans hz)]; rfl
  · rw [cons_of hz]
    rw [qlen_cons, if_neg]
    intro e
    apply h
    refine ⟨by omega, ?_⟩
    unfold byt
    rw [e]
    rfl
theorem qlen_some (s : ByteArray) (h : 0 < s.size) (h2 : byt s 0 = 34) : qlen s.data.toList = plusOne (qscan false (s.data.toList.drop 1)) := by
  rw [cons_of (by omega)]
  have e : s.data.toList.getD 0 0 = 34 := UInt8.toNat_inj.1 (by unfold byt at h2; show _ = 34; omega)
  rw [e, qlen_cons, if_pos rfl]
  rfl

theorem drop_cons (T : List UInt8) (k : Nat) (h : k < T.length) : T.drop k = T.getD k 0 :: T.drop (k + 1) := by
  rw [List.drop_eq_getElem_cons h, List.getD_eq_getElem?_getD, List.getElem?_eq_getElem h]
  rfl
theorem scan_field (e : Bool) (c : UInt8) (l : List UInt8) (h : fieldB c = false) : qscan e (c :: l) = none := by rw [qscan, if_pos h]
theorem scan_esc (c : UInt8) (l : List UInt8) (h : fieldB c = true) : qscan true (c :: l) = (qscan false l).map (· + 1) := by rw [qscan, if_neg (by simp [h]), if_pos rfl]
theorem scan_back (c : UInt8) (l : List UInt8) (h : c = 92) : qscan false (c :: l) = (qscan true l).map (· + 1) := by subst h; rw [qscan, if_neg (by decide), if_neg (by simp), if_pos rfl]
theorem scan_end (c : UInt8) (l : List UInt8) (h : c = 34) : qscan false (c :: l) = some 1 := by subst h; rw [qscan, if_neg (by decide), if_neg (by simp), if_neg (by decide), if_pos rfl]
theorem scan_on (c : UInt8) (l : List UInt8) (h : fieldB c = true) (h1 : c ≠ 92) (h2 : c ≠ 34) : qscan false (c :: l) = (qscan false l).map (· + 1) := by rw [qscan, if_neg (by simp [h]), if_neg (by simp), if_neg h1, if_neg h2]
theorem map_shift (o : Option Nat) (k : Nat) : ((o.map (· + 1)).map (· + k)) = o.map (· + (k + 1)) := by
  cases o with
  | none => rfl
  | some x => simp; omega

set_option maxRecDepth 100000 in
set_option maxHeartbeats 1000000 in
theorem quotedLength_any (s : ByteArray) (hs : s.size ≤ maxLen) (w : World) :
    Calls Tryz.prog 289 #[.string s] w fun e w' => e = .returned (.int .i64 (qlen s.data.toList)) ∧ Below w.heap.size w w' := by
  unfold maxLen at hs
  by_cases hp : 0 < s.size ∧ byt s 0 = 34
  · have hcv := fun (s : ByteArray) w => Lib.run_convert_string_bytes (P := Tryz.prog) w 9 42 5 s Tryz.underlying9 Tryz.underlying42 Tryz.underlying5
    have HP : Hid (decide (0 < s.size ∧ byt s 0 = 34) = true) := decide_eq_true hp
    have HQ : Hid (qlen s.data.toList = plusOne (qscan false (s.data.toList.drop 1))) := qlen_some s hp.1 hp.2
    obtain ⟨hp1, hp2⟩ := hp
    have HP2 : Hid (byt s 0 = 34) := hp2
    clear hp2
    go_enter Tryz.func289, Tryz.ntmps289
    go_wp2_with fail
    go_step3
    go_wp2_with fail
    refine (Tryz.strings_HasPrefix s ⟨#[34]⟩ _).mono ?_
    rintro e w1 ⟨rfl, rfl⟩
    rw [prefix_quote, HP.out]
    go_wp2
    go_step3
    go_wp2
    have hb := below_bytes w1 5 (s.extract 1 s.size)
    have hc := bytes_cell w1 5 (s.extract 1 s.size)
    have hrs : (s.extract 1 s.size).size = s.size - 1 := by simp
    rw [hrs] at hc
    have HT : Hid ((s.extract 1 s.size).data.toList = s.data.toList.drop 1) := tail_list s
    have HTL : Hid ((s.data.toList.drop 1).length = s.size - 1) := (by simp : (s.data.toList.drop 1).length = s.size - 1)
    have HBE : Hid (∀ k, byt (s.extract 1 s.size) k = (((s.data.toList.drop 1).getD k 0).toNat : Int)) := by
      intro k
      unfold byt
      rw [HT.out]
    clear hrs hcv
    go_loop [3, 13] (fun ev i => ∃ (k : Nat) (esc : Bool), k ≤ s.size - 1 ∧ i = .int .i64 k ∧ ev = .bool esc ∧ Hid (qscan false (s.data.toList.drop 1) = (qscan esc ((s.data.toList.drop 1).drop k)).map (· + k))) (fun _ i => s.size - (intOf i).toNat)
    case atStart => exact ⟨0, false, Nat.zero_le _, rfl, rfl, (by simp : qscan false (s.data.toList.drop 1) = (qscan false ((s.data.toList.drop 1).drop 0)).map (· + 0))⟩
    case round =>
      obtain ⟨k, esc, hk, rfl, rfl, hst⟩ := hrel
      by_cases hlt : k < s.size - 1
      · have hck := hc k hlt
        clear hc
        have HD : Hid ((s.data.toList.drop 1).drop k = (s.data.toList.drop 1).getD k 0 :: (s.data.toList.drop 1).drop (k + 1)) := drop_cons _ k (by rw [HTL.out]; exact hlt)
        have HC : Hid (byt (s.extract 1 s.size) k = (((s.data.toList.drop 1).getD k 0).toNat : Int)) := HBE.out k
        generalize (s.data.toList.drop 1).getD k 0 = u at HD HC
        obtain ⟨b0, b1⟩ := byt_bd (s.extract 1 s.size) k
        generalize byt (s.extract 1 s.size) k = c at *
        have HF : Hid (fieldB u = fieldI c) := (by unfold fieldB; rw [HC.out] : fieldB u = fieldI c)
        cases hf : fieldI c with
        | false =>
          have HQ0 : Hid (qlen s.data.toList = 0) := by
            show qlen _ = 0
            rw [HQ.out, hst.out, HD.out, scan_field _ _ _ (by rw [HF.out]; exact hf)]
            rfl
          go_wp2_with (go_at_call 124; refine (isFieldByte_any _ b0 b1 _).mono ?_; rintro e w' ⟨rfl, rfl⟩)
          try rw [Exit.noGoto_ret]
          go_ret
          exact ⟨ret_int (by rw [HQ0.out]; rfl), hb⟩
        | true =>
          cases esc with
          | true =>
            have HN : Hid (qscan false (s.data.toList.drop 1) = (qscan false ((s.data.toList.drop 1).drop (k + 1))).map (· + (k + 1))) := by
              show qscan _ _ = _
              rw [hst.out, HD.out, scan_esc _ _ (by rw [HF.out]; exact hf), map_shift]
            go_wp2_with (go_at_call 124; refine (isFieldByte_any _ b0 b1 _).mono ?_; rintro e w' ⟨rfl, rfl⟩)
            go_round
            case rel => exact ⟨k + 1, false, by omega, by go_num, rfl, HN⟩
            case measure => simp [intOf]; omega
          | false =>
            by_cases h92 : c = 92
            · have HN : Hid (qscan false (s.data.toList.drop 1) = (qscan true ((s.data.toList.drop 1).drop (k + 1))).map (· + (k + 1))) := by
                show qscan _ _ = _
                rw [hst.out, HD.out, scan_back _ _ (UInt8.toNat_inj.1 (by have := HC.out; show u.toNat = 92; omega)), map_shift]
              have h92' : (c == 92) = true := by simp [h92]
              clear h92
              go_wp2_with (go_at_call 124; refine (isFieldByte_any _ b0 b1 _).mono ?_; rintro e w' ⟨rfl, rfl⟩)
              go_round
              case rel => exact ⟨k + 1, true, by omega, by go_num, rfl, HN⟩
              case measure => simp [intOf]; omega
            · have h92' : (c == 92) = false := by simp [h92]
              by_cases h34 : c = 34
              · have HQ2 : Hid (qlen s.data.toList = k + 2) := by
                  show qlen _ = _
                  rw [HQ.out, hst.out, HD.out, scan_end _ _ (UInt8.toNat_inj.1 (by have := HC.out; show u.toNat = 34; omega))]
                  show 1 + k + 1 = k + 2
                  omega
                have h34' : (c == 34) = true := by simp [h34]
                clear h34 h92
                go_wp2_with (go_at_call 124; refine (isFieldByte_any _ b0 b1 _).mono ?_; rintro e w' ⟨rfl, rfl⟩)
                try rw [Exit.noGoto_ret]
                go_ret
                exact ⟨ret_int (by rw [HQ2.out]; omega), hb⟩
              · have h34' : (c == 34) = false := by simp [h34]
                have HN : Hid (qscan false (s.data.toList.drop 1) = (qscan false ((s.data.toList.drop 1).drop (k + 1))).map (· + (k + 1))) := by
                  show qscan _ _ = _
                  rw [hst.out, HD.out, scan_on _ _ (by rw [HF.out]; exact hf) (by intro e; have := HC.out; rw [e] at this; exact h92 this) (by intro e; have := HC.out; rw [e] at this; exact h34 this), map_shift]
                clear h34 h92
                go_wp2_with (go_at_call 124; refine (isFieldByte_any _ b0 b1 _).mono ?_; rintro e w' ⟨rfl, rfl⟩)
                go_round
                case rel => exact ⟨k + 1, false, by omega, by go_num, rfl, HN⟩
                case measure => simp [intOf]; omega
      · have HQ0 : Hid (qlen s.data.toList = 0) := by
          show qlen _ = 0
          have h1 := hst.out
          rw [show (s.data.toList.drop 1).drop k = [] from List.drop_of_length_le (by rw [HTL.out]; omega)] at h1
          rw [HQ.out, h1]
          cases esc <;> rfl
        have hge : ¬ ((k : Int) < ((s.size - 1 : Nat) : Int)) := by omega
        go_wp2
        try rw [Exit.noGoto_ret]
        go_ret
        exact ⟨ret_int (by rw [HQ0.out]; rfl), hb⟩
  · have HP : Hid (decide (0 < s.size ∧ byt s 0 = 34) = false) := decide_eq_false hp
    have HQ : Hid (qlen s.data.toList = 0) := qlen_none s hp
    go_enter Tryz.func289, Tryz.ntmps289
    go_wp2_with fail
    go_step3
    go_wp2_with fail
    refine (Tryz.strings_HasPrefix s ⟨#[34]⟩ _).mono ?_
    rintro e w1 ⟨rfl, rfl⟩
    rw [prefix_quote, HP.out]
    go_wp2
    rw [Exit.noGoto_ret]
    go_ret
    exact ⟨ret_int (by rw [HQ.out]; rfl), Below.refl _ _⟩

end Oc
end Go.Proofs.YticncpjpkgdnlaaGreatDoor

/-
  octet.partsSay, octet.Unquote.
-/
set_option linter.unusedVariables false
set_option linter.unusedSimpArgs false
namespace Go.Proofs.YticncpjpkgdnlaaGreatDoor
open Go.RowKit Go.Shelf
namespace Oc

theorem say_back (c : UInt8) (l : List UInt8) (h : c = 92) : psay false (c :: l) = psay true l := by rw [psay, if_pos ⟨h, rfl⟩]
theorem say_esc (c : UInt8) (l : List UInt8) : psay true (c :: l) = c :: psay false l := by rw [psay, if_neg (by simp)]
theorem say_on (e : Bool) (c : UInt8) (l : List UInt8) (h : c ≠ 92) : psay e (c :: l) = c :: psay false l := by rw [psay, if_neg (fun x => h x.1)]

set_option maxRecDepth 100000 in
set_option maxHeartbeats 1000000 in
theorem partsSay_any (s : ByteArray) (hs : s.size ≤ 134217728) (w : World) :
    Calls Tryz.prog 349 #[.string s] w fun e w' => e = .returned (.string (str (psay false s.data.toList))) ∧ Below w.heap.size w w' := by
  have hcv := fun (s : ByteArray) w => Lib.run_convert_string_bytes (P := Tryz.prog) w 9 42 5 s Tryz.underlying9 Tryz.underlying42 Tryz.underlying5
  go_enter Tryz.func349, Tryz.ntmps349
  go_wp2
  have HN0 := bld_new w
  have hsz0 : (w.alloc (.cells #[.pointer none, .slice none 0 0] 58)).heap.size = w.heap.size + 1 := by simp
  have HL0 : Hid (Below w.heap.size w (w.alloc (.cells #[.pointer none, .slice none 0 0] 58))) := (Below.refl _ w).alloc (Nat.le_refl _) _
  have HB0 : Hid (Lib.IsBuilder 58 5 w.heap.size w.heap.size (Lib.byteCells []) (Lib.bytesWorld (w.alloc (.cells #[.pointer none, .slice none 0 0] 58)) 5 s)) := .inl (bld_bytes HN0 s)
  clear HN0 hcv
  go_loopw [4, 10] (fun ev i wr => ∃ (k : Nat) (esc : Bool) (out : List UInt8), k ≤ s.size ∧ i = .int .i64 k ∧ ev = .bool esc ∧ out.length ≤ k ∧ Hid (psay false s.data.toList = out ++ psay esc (s.data.toList.drop k)) ∧ Hid (Lib.IsBuilder 58 5 w.heap.size w.heap.size (Lib.byteCells out) wr) ∧ Hid (RowAt (w.alloc (.cells #[.pointer none, .slice none 0 0] 58)) s wr) ∧ Hid (Below w.heap.size w wr)) (fun _ i _ => s.size - (intOf i).toNat)
  case atStart => exact ⟨0, false, [], Nat.zero_le _, rfl, rfl, Nat.le_refl _, (by simp : psay false s.data.toList = [] ++ psay false (s.data.toList.drop 0)), HB0, (rfl : RowAt (w.alloc (.cells #[.pointer none, .slice none 0 0] 58)) s _), HL0.out.trans ((below_bytes (w.alloc (.cells #[.pointer none, .slice none 0 0] 58)) 5 s).mono (by rw [hsz0]; omega))⟩
  case round =>
    obtain ⟨k, esc, out, hk, rfl, rfl, hol, hst, hbd, hrow, hbl⟩ := hrel
    have hsz := hbl.out.size
    by_cases hlt : k < s.size
    · have hck := hrow.out.cell k hlt
      rw [hsz0] at hck
      have HC : Hid (byt s k = ((s.data.toList.getD k 0).toNat : Int)) := rfl
      have HD : Hid (s.data.toList.drop k = s.data.toList.getD k 0 :: s.data.toList.drop (k + 1)) := drop_cons _ k (by rw [size_list]; exact hlt)
      generalize s.data.toList.getD k 0 = u at HC HD
      obtain ⟨b0, b1⟩ := byt_bd s k
      generalize byt s k = c at *
      have wr8 : ∀ w8 : World, Lib.BuilderAt 58 5 w.heap.size w.heap.size (.pointer (some ⟨w.heap.size, 0, none⟩)) (Lib.byteCells out ++ [.int .u8 c]) w8 → Lib.IsBuilder 58 5 w.heap.size w.heap.size (Lib.byteCells (out ++ [u])) w8 := by
        intro w8 h
        rw [HC.out, cells_snoc] at h
        exact .inr h
      have HW8 : Hid (∀ w8 : World, Lib.BuilderAt 58 5 w.heap.size w.heap.size (.pointer (some ⟨w.heap.size, 0, none⟩)) (Lib.byteCells out ++ [.int .u8 c]) w8 → Lib.IsBuilder 58 5 w.heap.size w.heap.size (Lib.byteCells (out ++ [u])) w8) := wr8
      clear wr8
      by_cases h92 : c = 92
      · have h92' : (c == 92) = true := by simp [h92]
        have HU : Hid (u = 92) := UInt8.toNat_inj.1 (by have := HC.out; show u.toNat = 92; omega)
        clear h92
        cases esc with
        | false =>
          have HN : Hid (psay false s.data.toList = out ++ psay true (s.data.toList.drop (k + 1))) := by
            show psay _ _ = _
            rw [hst.out, HD.out, say_back _ _ HU.out]
          go_wp2
          go_roundw
          case rel => exact ⟨k + 1, true, out, by omega, by go_num, rfl, by omega, HN, hbd, hrow, hbl⟩
          case measure => simp [intOf]; omega
        | true =>
          have HN : Hid (psay false s.data.toList = (out ++ [u]) ++ psay false (s.data.toList.drop (k + 1))) := by
            show psay _ _ = _
            rw [hst.out, HD.out, say_esc]
            simp
          go_wp2_with fail
          refine (WriteByte_any w.heap.size w.heap.size _ c _ hbd.out (by rw [cells_len]; omega) (by omega)).mono ?_
          rintro e w4 ⟨rfl, hbd4, hbl4, hmk4⟩
          have HD4 := HW8.out w4 hbd4
          have HR4 : Hid (RowAt (w.alloc (.cells #[.pointer none, .slice none 0 0] 58)) s w4) := hrow.out.marked hmk4
          have HB4 : Hid (Below w.heap.size w w4) := hbl.out.trans hbl4
          have HE4 : Hid (Lib.IsBuilder 58 5 w.heap.size w.heap.size (Lib.byteCells (out ++ [u])) w4) := HD4
          clear hbd4 hbl4 hmk4 HD4
          go_wp2
          go_roundw
          case rel => exact ⟨k + 1, false, out ++ [u], by omega, by go_num, rfl, by simp; omega, HN, HE4, HR4, HB4⟩
          case measure => simp [intOf]; omega
      · have h92' : (c == 92) = false := by simp [h92]
        have HU : Hid (u ≠ 92) := fun e => h92 (by have := HC.out; rw [e] at this; exact this)
        clear h92
        have HN : Hid (psay false s.data.toList = (out ++ [u]) ++ psay false (s.data.toList.drop (k + 1))) := by
          show psay _ _ = _
          rw [hst.out, HD.out, say_on _ _ _ HU.out]
          simp
        go_wp2_with fail
        refine (WriteByte_any w.heap.size w.heap.size _ c _ hbd.out (by rw [cells_len]; omega) (by omega)).mono ?_
        rintro e w4 ⟨rfl, hbd4, hbl4, hmk4⟩
        have HD4 := HW8.out w4 hbd4
        have HR4 : Hid (RowAt (w.alloc (.cells #[.pointer none, .slice none 0 0] 58)) s w4) := hrow.out.marked hmk4
        have HB4 : Hid (Below w.heap.size w w4) := hbl.out.trans hbl4
        have HE4 : Hid (Lib.IsBuilder 58 5 w.heap.size w.heap.size (Lib.byteCells (out ++ [u])) w4) := HD4
        clear hbd4 hbl4 hmk4 HD4
        go_wp2
        go_roundw
        case rel => exact ⟨k + 1, false, out ++ [u], by omega, by go_num, rfl, by simp; omega, HN, HE4, HR4, HB4⟩
        case measure => simp [intOf]; omega
    · have HN : Hid (psay false s.data.toList = out) := by
        show psay _ _ = _
        rw [hst.out, List.drop_of_length_le (by rw [size_list]; omega)]
        cases esc <;> simp [psay]
      go_wp2_with fail
      refine (Tryz.Builder_String_any w.heap.size w.heap.size out _ hbd.out (by omega)).mono ?_
      rintro e w4 ⟨rfl, hbl4⟩
      go_wp2
      go_ret
      exact ⟨ret_string (by rw [HN.out]; rfl), hbl.out.trans hbl4⟩

set_option maxRecDepth 100000 in
set_option maxHeartbeats 1000000 in
theorem Unquote_any (s : ByteArray) (hs : s.size ≤ 134217728) (w : World) :
    Calls Tryz.prog 341 #[.string s] w fun e w' => e = .returned (.tuple #[.string (str (unqR s.data.toList).1), .int .i64 (unqR s.data.toList).2.1, .int .i64 (unqR s.data.toList).2.2]) ∧ Below w.heap.size w w' := by
  have HS : Hid (s.size ≤ maxLen) := (by unfold maxLen; omega : s.size ≤ maxLen)
  have hq := qlen_bd s.data.toList
  rw [size_list] at hq
  obtain ⟨hq1, hq2⟩ := hq
  by_cases hz : qlen s.data.toList = 0
  · have HU : Hid (unqR s.data.toList = ([], 0, 13)) := (by unfold unqR; rw [if_pos hz] : unqR s.data.toList = ([], 0, 13))
    have HZ : Hid (qlen s.data.toList = 0) := hz
    clear hq1 hq2 hz
    go_enter Tryz.func341, Tryz.ntmps341
    go_wp2_with fail
    refine (quotedLength_any s HS.out _).mono ?_
    rintro e w1 ⟨rfl, hb1⟩
    rw [HZ.out]
    go_wp2
    go_ret3
    rw [HU.out]
    exact ⟨rfl, hb1⟩
  · have HU : Hid (unqR s.data.toList = (psay false ((s.data.toList.drop 1).take (qlen s.data.toList - 2)), (qlen s.data.toList : Int), 0)) := (by unfold unqR; rw [if_neg hz] : unqR s.data.toList = _)
    have h2 := hq2 hz
    have HX : Hid ((s.extract 1 (qlen s.data.toList - 1)).data.toList = (s.data.toList.drop 1).take (qlen s.data.toList - 2)) := by
      show (s.extract 1 (qlen s.data.toList - 1)).data.toList = _
      rw [Lib.extract_data, show qlen s.data.toList - 1 - 1 = qlen s.data.toList - 2 by omega]
    clear hq2 hz
    go_enter Tryz.func341, Tryz.ntmps341
    go_wp2_with fail
    refine (quotedLength_any s HS.out _).mono ?_
    rintro e w1 ⟨rfl, hb1⟩
    generalize qlen s.data.toList = n at *
    have hne : ((n : Int) == 0) = false := by simp; omega
    have hcast : ((n : Int) - 1) = ((n - 1 : Nat) : Int) := by omega
    go_wp2_with fail
    refine (partsSay_any (s.extract 1 (n - 1)) (by simp; omega) _).mono ?_
    rintro e w2 ⟨rfl, hb2⟩
    rw [HX.out]
    generalize psay false ((s.data.toList.drop 1).take (n - 2)) = r at *
    go_wp2
    go_ret3
    rw [HU.out]
    exact ⟨rfl, bel_trans hb1 hb2⟩

end Oc
end Go.Proofs.YticncpjpkgdnlaaGreatDoor

/-
  The document's Unquote.
-/
set_option linter.unusedVariables false
set_option linter.unusedSimpArgs false
namespace Go.Proofs.YticncpjpkgdnlaaGreatDoor
open Go.RowKit Go.Shelf
namespace Oc

theorem unqR_zero (s : ByteArray) (h : ¬ (0 < s.size ∧ byt s 0 = 34)) : unqR s.data.toList = ([], 0, 13) := by
  unfold unqR
  rw [if_pos (qlen_none s h)]
theorem head_quote (s : ByteArray) (h : 0 < s.size) (h2 : byt s 0 = 34) : s.data.toList = 34 :: s.data.toList.drop 1 := by
  have e : s.data.toList.getD 0 0 = 34 := UInt8.toNat_inj.1 (by unfold byt at h2; show _ = 34; omega)
  conv => lhs; rw [cons_of (show ¬ s.size = 0 by omega), e]
theorem own_empty (w : World) : Own w.heap.size (.slice (some ⟨w.heap.size, 0, none⟩) 0 0) [] (w.alloc (.cells #[] 5)) :=
  ⟨by simp [Lib.byteCells], .inr ⟨w.heap.size, 0, #[], rfl, Nat.le_refl _, heap_alloc_new w _, by simp, by decide, by simp, by simp [Lib.byteCells]⟩⟩
theorem map_none {α β : Type} {o : Option α} {f : α → β} (h : o = none) : o.map f = none := by rw [h]; rfl
theorem ru_end (c : UInt8) (l : List UInt8) (h : c = 34) : ru false (c :: l) = some ([], 1) := by subst h; rw [ru, if_pos rfl]
theorem ru_back (c : UInt8) (l : List UInt8) (h : c = 92) : ru false (c :: l) = (ru true l).map (fun x => (x.1, x.2 + 1)) := by subst h; rw [ru, if_neg (by decide), if_pos rfl]
theorem ru_bad (c : UInt8) (l : List UInt8) (h : fieldB c = false) : ru false (c :: l) = none := by
  rw [ru, if_neg (by intro e; subst e; simp [field34] at h), if_neg (by intro e; subst e; simp [field92] at h), h]
  rfl
theorem ru_on (c : UInt8) (l : List UInt8) (h : fieldB c = true) (h1 : c ≠ 34) (h2 : c ≠ 92) : ru false (c :: l) = (ru false l).map (fun x => (c :: x.1, x.2 + 1)) := by
  rw [ru, if_neg h1, if_neg h2, if_pos h]
theorem rut_bad (c : UInt8) (l : List UInt8) (h : fieldB c = false) : ru true (c :: l) = none := by rw [ru, h]; rfl
theorem rut_on (c : UInt8) (l : List UInt8) (h : fieldB c = true) : ru true (c :: l) = (ru false l).map (fun x => (c :: x.1, x.2 + 1)) := by rw [ru, if_pos h]
theorem shift1 (o : List UInt8) (k : Nat) (u : UInt8) (r : Option (List UInt8 × Nat)) (hk : 1 ≤ k) :
    ((r.map (fun x => (u :: x.1, x.2 + 1))).map (fun x => (o ++ x.1, x.2 + (k - 1)))) = r.map (fun x => ((o ++ [u]) ++ x.1, x.2 + (k + 1 - 1))) := by
  cases r with
  | none => rfl
  | some x => simp; omega
theorem shift2 (o : List UInt8) (k : Nat) (u : UInt8) (r : Option (List UInt8 × Nat)) (hk : 1 ≤ k) :
    (((r.map (fun x => (u :: x.1, x.2 + 1))).map (fun x => (x.1, x.2 + 1))).map (fun x => (o ++ x.1, x.2 + (k - 1)))) = r.map (fun x => ((o ++ [u]) ++ x.1, x.2 + (k + 2 - 1))) := by
  cases r with
  | none => rfl
  | some x => simp; omega

end Oc
end Go.Proofs.YticncpjpkgdnlaaGreatDoor

/-
  Parameters, plainly: over lists of bytes.
-/
set_option linter.unusedVariables false
set_option linter.unusedSimpArgs false
namespace Go.Proofs.YticncpjpkgdnlaaGreatDoor
namespace Oc

/-- A parameter: its name, its value, whether it has one. -/
abbrev Prm := List UInt8 × List UInt8 × Bool
/-- How many blanks stand at the front. -/
def bl (r : List UInt8) : Nat := (r.takeWhile blankB).length
/-- A value at the front, and how many bytes it has. -/
def rv (r : List UInt8) : Option (List UInt8 × Nat) :=
  if 0 < tokLen r then some (r.take (tokLen r), tokLen r) else if qlen r = 0 then none else some (psay false ((r.drop 1).take (qlen r - 2)), qlen r)
/-- Whether a value is told behind a name of n bytes. -/
def told (r : List UInt8) (n : Nat) : Bool := decide (0 < n ∧ n < r.length ∧ r.getD n 0 = 61)
/-- A parameter at the front, and how many bytes it has. -/
def rp (r : List UInt8) : Option (Prm × Nat) :=
  if told r (tokLen r) then (rv (r.drop (tokLen r + 1))).map (fun x => ((r.take (tokLen r), x.1, true), tokLen r + 1 + x.2)) else some ((r.take (tokLen r), [], false), tokLen r)
/-- Whether a semicolon stands there. -/
def semi (r : List UInt8) (n : Nat) : Bool := decide (n < r.length ∧ r.getD n 0 = 59)
/-- One step: an error; the end; or bytes, and what they say. -/
def pstep (r : List UInt8) : Option (Option (Nat × List Prm)) :=
  if semi r (bl r) then
    (rp ((r.drop (bl r + 1)).drop (bl (r.drop (bl r + 1))))).map (fun x => some (if x.2 = 0 then (bl r + 1, []) else (bl r + 1 + bl (r.drop (bl r + 1)) + x.2, [x.1])))
  else some none
def pgo : Nat → List UInt8 → Option (List Prm × Nat)
  | 0, _ => none
  | f + 1, r => match pstep r with
    | none => none
    | some none => some ([], 0)
    | some (some x) => (pgo f (r.drop x.1)).map (fun y => (x.2 ++ y.1, x.1 + y.2))
def prm (r : List UInt8) : Option (List Prm × Nat) := pgo (r.length + 1) r

theorem bl_le (r : List UInt8) : bl r ≤ r.length := by
  unfold bl
  exact (List.takeWhile_prefix blankB).length_le
theorem tokLen_le (r : List UInt8) : tokLen r ≤ r.length := by
  unfold tokLen
  exact (List.takeWhile_prefix tokB).length_le
theorem bl_trim (r : List UInt8) : bl r + (trimL r).length = r.length := by
  unfold bl trimL
  have := congrArg List.length (List.takeWhile_append_dropWhile (p := blankB) (l := r))
  rw [List.length_append] at this
  exact this
theorem rv_le (r : List UInt8) (x : List UInt8 × Nat) (h : rv r = some x) : x.2 ≤ r.length ∧ 0 < x.2 ∧ x.1.length ≤ r.length := by
  unfold rv at h
  split at h
  · cases h
    have := tokLen_le r
    rename_i h0
    simp
    omega
  · split at h
    · cases h
    · cases h
      have hb := qlen_bd r
      have hp := psay_le ((r.drop 1).take (qlen r - 2)) false
      rw [List.length_take, List.length_drop] at hp
      rename_i h1 h2
      refine ⟨hb.1, by have := hb.2 h2; omega, ?_⟩
      show (psay _ _).length ≤ _
      omega
theorem rp_le (r : List UInt8) (x : Prm × Nat) (h : rp r = some x) : x.2 ≤ r.length ∧ x.1.1.length ≤ r.length ∧ x.1.2.1.length ≤ r.length := by
  unfold rp at h
  have ht := tokLen_le r
  split at h
  · rename_i hh
    obtain ⟨y, hy, rfl⟩ := Option.map_eq_some_iff.1 h
    have hb := rv_le _ y hy
    rw [List.length_drop] at hb
    have := of_decide_eq_true hh
    simp
    omega
  · cases h
    simp
    omega
theorem pstep_le (r : List UInt8) (x : Nat × List Prm) (h : pstep r = some (some x)) : 0 < x.1 ∧ x.1 ≤ r.length ∧ x.2.length ≤ 1 := by
  unfold pstep at h
  split at h
  · rename_i hs
    have hs := of_decide_eq_true hs
    obtain ⟨y, hy, e⟩ := Option.map_eq_some_iff.1 h
    have hy2 := rp_le _ y hy
    rw [List.length_drop, List.length_drop] at hy2
    have hb2 := bl_le (r.drop (bl r + 1))
    rw [List.length_drop] at hb2
    split at e
    · cases e
      simp
      omega
    · cases e
      simp
      omega
  · cases h
theorem pgo_fuel : ∀ (n : Nat) (r : List UInt8) (f : Nat), r.length ≤ n → r.length < f → pgo f r = prm r
  | n, r, 0, _, h => by simp at h
  | n, r, f + 1, hn, hf => by
    unfold prm
    rw [pgo, pgo]
    cases hp : pstep r with
    | none => rfl
    | some o =>
      cases o with
      | none => rfl
      | some x =>
        have hx := pstep_le r x hp
        have hd : (r.drop x.1).length < r.length := by rw [List.length_drop]; omega
        show Option.map _ (pgo f (r.drop x.1)) = Option.map _ (pgo r.length (r.drop x.1))
        cases n with
        | zero => omega
        | succ n => rw [pgo_fuel n (r.drop x.1) f (by omega) (by omega), pgo_fuel n (r.drop x.1) r.length (by omega) (by omega)]
theorem prm_none {r : List UInt8} (h : pstep r = none) : prm r = none := by unfold prm; rw [pgo, h]
theorem prm_end {r : List UInt8} (h : pstep r = some none) : prm r = some ([], 0) := by unfold prm; rw [pgo, h]
theorem prm_on {r : List UInt8} {x : Nat × List Prm} (h : pstep r = some (some x)) : prm r = (prm (r.drop x.1)).map (fun y => (x.2 ++ y.1, x.1 + y.2)) := by
  have hx := pstep_le r x h
  have hd : (r.drop x.1).length < r.length := by rw [List.length_drop]; omega
  rw [← pgo_fuel (r.drop x.1).length (r.drop x.1) r.length (Nat.le_refl _) hd]
  unfold prm
  rw [pgo, h]
/-- What Params answers. -/
def paramsR (l : List UInt8) : List Prm × Int × Int := match prm l with | some x => (x.1, (x.2 : Int), 0) | none => ([], 0, 15)
theorem paramsR_some {l : List UInt8} {x : List Prm × Nat} (h : prm l = some x) : paramsR l = (x.1, (x.2 : Int), 0) := by unfold paramsR; rw [h]
theorem paramsR_none {l : List UInt8} (h : prm l = none) : paramsR l = ([], 0, 15) := by unfold paramsR; rw [h]

theorem pstep_stop {r : List UInt8} (h : semi r (bl r) = false) : pstep r = some none := by unfold pstep; rw [h]; rfl
theorem pstep_bad {r : List UInt8} (h : semi r (bl r) = true) (h2 : rp ((r.drop (bl r + 1)).drop (bl (r.drop (bl r + 1)))) = none) : pstep r = none := by unfold pstep; rw [if_pos h, h2]; rfl
theorem pstep_empty {r : List UInt8} {x : Prm × Nat} (h : semi r (bl r) = true) (h2 : rp ((r.drop (bl r + 1)).drop (bl (r.drop (bl r + 1)))) = some x) (h3 : x.2 = 0) : pstep r = some (some (bl r + 1, [])) := by
  unfold pstep; rw [if_pos h, h2]; simp [h3]
theorem pstep_one {r : List UInt8} {x : Prm × Nat} (h : semi r (bl r) = true) (h2 : rp ((r.drop (bl r + 1)).drop (bl (r.drop (bl r + 1)))) = some x) (h3 : x.2 ≠ 0) :
    pstep r = some (some (bl r + 1 + bl (r.drop (bl r + 1)) + x.2, [x.1])) := by
  unfold pstep; rw [if_pos h, h2]; simp [h3]

end Oc
end Go.Proofs.YticncpjpkgdnlaaGreatDoor

/-
  octet.blankLength, readValue, readParam.
-/
set_option linter.unusedVariables false
set_option linter.unusedSimpArgs false
namespace Go.Proofs.YticncpjpkgdnlaaGreatDoor
open Go.RowKit Go.Shelf Go.Lib
namespace Oc

set_option maxHeartbeats 1000000 in
theorem blankLength_any (s : ByteArray) (hs : s.size ≤ 134217728) (w : World) :
    Calls Tryz.prog 274 #[.string s] w fun e w' => e = .returned (.int .i64 (bl s.data.toList)) ∧ Below w.heap.size w w' := by
  have hcon := Any.strings_TrimLeft_laid Tryz.lays161 (by kernel_rfl) s ⟨#[32, 9]⟩ w (by decide) (ascii_of_all (by decide))
  change Calls Tryz.prog 221 _ _ (fun e w' => e = .returned (.string ⟨(Lib.trimLeftS s.data.toList [32, 9]).toArray⟩) ∧ Below w.heap.size w w') at hcon
  rw [trimLeftS_eq] at hcon
  change Calls Tryz.prog 221 _ _ (fun e w' => e = .returned (.string (str (trimL s.data.toList))) ∧ Below w.heap.size w w') at hcon
  have hb := bl_trim s.data.toList
  rw [size_list] at hb
  have hsz := str_size (trimL s.data.toList)
  rw [← hsz] at hb
  clear hsz
  generalize str (trimL s.data.toList) = r at hcon hb
  have HC : Hid (Calls Tryz.prog 221 #[.string s, .string ⟨#[32, 9]⟩] w (fun e w' => e = .returned (.string r) ∧ Below w.heap.size w w')) := hcon
  clear hcon
  have HB : Hid (bl s.data.toList + r.size = s.size) := hb
  have hle : r.size ≤ s.size := by omega
  clear hb
  go_enter Tryz.func274, Tryz.ntmps274
  go_wp2_with fail
  refine HC.out.mono ?_
  rintro e w' ⟨rfl, hB⟩
  go_wp2
  go_ret
  exact ⟨ret_int (by have := HB.out; omega), hB⟩

theorem unqR_zero' (l : List UInt8) (h : qlen l = 0) : unqR l = ([], 0, 13) := by unfold unqR; rw [if_pos h]
def rvR (r : List UInt8) : List UInt8 × Int × Int := match rv r with | some x => (x.1, (x.2 : Int), 0) | none => ([], 0, 15)
theorem take_ext (s : ByteArray) (n : Nat) : s.extract 0 n = str (s.data.toList.take n) := by
  apply eq_list
  rw [str_list, Lib.extract_data]
  simp

set_option maxRecDepth 100000 in
set_option maxHeartbeats 1000000 in
theorem readValue_any (s : ByteArray) (hs : s.size ≤ 134217728) (w : World) (t : Tab w) :
    Calls Tryz.prog 319 #[.string s] w fun e w' => e = .returned (.tuple #[.string (str (rvR s.data.toList).1), .int .i64 (rvR s.data.toList).2.1, .int .i64 (rvR s.data.toList).2.2]) ∧ Below w.heap.size w w' := by
  have HT : Hid (Tab w) := t
  clear t
  have HS : Hid (s.size ≤ maxLen) := (by unfold maxLen; omega : s.size ≤ maxLen)
  have hl := tokLen_le s.data.toList
  rw [size_list] at hl
  by_cases h0 : 0 < tokLen s.data.toList
  · have HR : Hid (rvR s.data.toList = (s.data.toList.take (tokLen s.data.toList), (tokLen s.data.toList : Int), 0)) := (by unfold rvR rv; rw [if_pos h0] : rvR s.data.toList = _)
    have HX : Hid (s.extract 0 (tokLen s.data.toList) = str (s.data.toList.take (tokLen s.data.toList))) := take_ext s _
    go_enter Tryz.func319, Tryz.ntmps319
    go_wp2_with fail
    refine (tokenLength_any s HS.out _ HT.out).mono ?_
    rintro e w1 ⟨rfl, hb1⟩
    generalize tokLen s.data.toList = n at *
    go_wp2
    go_ret3
    rw [HR.out, ← HX.out]
    exact ⟨rfl, hb1⟩
  · have hz : tokLen s.data.toList = 0 := by omega
    have HZ : Hid (tokLen s.data.toList = 0) := hz
    by_cases hq : qlen s.data.toList = 0
    · have HR : Hid (rvR s.data.toList = ([], 0, 15)) := (by unfold rvR rv; rw [if_neg h0, if_pos hq] : rvR s.data.toList = _)
      have HU : Hid (unqR s.data.toList = ([], 0, 13)) := unqR_zero' _ hq
      clear hl h0 hz hq
      go_enter Tryz.func319, Tryz.ntmps319
      go_wp2_with fail
      refine (tokenLength_any s HS.out _ HT.out).mono ?_
      rintro e w1 ⟨rfl, hb1⟩
      rw [HZ.out]
      go_wp2_with fail
      refine (Unquote_any s hs _).mono ?_
      rintro e w2 ⟨rfl, hb2⟩
      rw [HU.out]
      go_wp2
      go_ret3
      rw [HR.out]
      exact ⟨rfl, bel_trans hb1 hb2⟩
    · have HR : Hid (rvR s.data.toList = (psay false ((s.data.toList.drop 1).take (qlen s.data.toList - 2)), (qlen s.data.toList : Int), 0)) := (by unfold rvR rv; rw [if_neg h0, if_neg hq] : rvR s.data.toList = _)
      have HU : Hid (unqR s.data.toList = (psay false ((s.data.toList.drop 1).take (qlen s.data.toList - 2)), (qlen s.data.toList : Int), 0)) := (by unfold unqR; rw [if_neg hq] : unqR s.data.toList = _)
      clear hl h0 hz hq
      go_enter Tryz.func319, Tryz.ntmps319
      go_wp2_with fail
      refine (tokenLength_any s HS.out _ HT.out).mono ?_
      rintro e w1 ⟨rfl, hb1⟩
      rw [HZ.out]
      go_wp2_with fail
      refine (Unquote_any s hs _).mono ?_
      rintro e w2 ⟨rfl, hb2⟩
      rw [HU.out]
      generalize psay false ((s.data.toList.drop 1).take (qlen s.data.toList - 2)) = x at *
      go_wp2
      go_ret3
      rw [HR.out]
      exact ⟨rfl, bel_trans hb1 hb2⟩

/-- What readParam answers. -/
def rpR (r : List UInt8) : Prm × Int × Int := match rp r with | some x => (x.1, (x.2 : Int), 0) | none => (([], [], false), 0, 15)

set_option maxRecDepth 100000 in
set_option maxHeartbeats 1000000 in
theorem readParam_any (s : ByteArray) (hs : s.size ≤ 134217728) (w : World) (t : Tab w) :
    Calls Tryz.prog 275 #[.string s] w fun e w' => e = .returned (.tuple #[.agg #[.string (str (rpR s.data.toList).1.1), .string (str (rpR s.data.toList).1.2.1), .bool (rpR s.data.toList).1.2.2], .int .i64 (rpR s.data.toList).2.1, .int .i64 (rpR s.data.toList).2.2]) ∧ Below w.heap.size w w' := by
  have HT : Hid (Tab w) := t
  clear t
  have HS : Hid (s.size ≤ maxLen) := (by unfold maxLen; omega : s.size ≤ maxLen)
  have hl := tokLen_le s.data.toList
  rw [size_list] at hl
  have HX : Hid (s.extract 0 (tokLen s.data.toList) = str (s.data.toList.take (tokLen s.data.toList))) := take_ext s _
  have b0 : Hid (Below w.heap.size w (w.alloc (.cells #[.string ⟨#[]⟩, .string ⟨#[]⟩, .bool false] 66))) := (Below.refl _ w).alloc (Nat.le_refl _) _
  have HT1 : Hid (Tab (w.alloc (.cells #[.string ⟨#[]⟩, .string ⟨#[]⟩, .bool false] 66))) := HT.out.below b0.out (Nat.le_refl _)
  cases htd : told s.data.toList (tokLen s.data.toList) with
  | false =>
    have HR : Hid (rpR s.data.toList = ((s.data.toList.take (tokLen s.data.toList), [], false), (tokLen s.data.toList : Int), 0)) := (by unfold rpR rp; rw [htd]; rfl : rpR s.data.toList = _)
    have hno := of_decide_eq_false htd
    rw [size_list] at hno
    go_enter Tryz.func275, Tryz.ntmps275
    go_wp2_with fail
    refine (tokenLength_any s HS.out _ HT1.out).mono ?_
    rintro e w1 ⟨rfl, hb1⟩
    have k0 : w1.cell? ⟨w.heap.size, 0, none⟩ = some (.string ⟨#[]⟩) := (hb1.cell (p := ⟨w.heap.size, 0, none⟩) (by simp)).trans (by simp)
    have k1 : w1.cell? ⟨w.heap.size, 1, none⟩ = some (.string ⟨#[]⟩) := (hb1.cell (p := ⟨w.heap.size, 1, none⟩) (by simp)).trans (by simp)
    have k2 : w1.cell? ⟨w.heap.size, 2, none⟩ = some (.bool false) := (hb1.cell (p := ⟨w.heap.size, 2, none⟩) (by simp)).trans (by simp)
    have f0 : w1.frozen? ⟨w.heap.size, 0, none⟩ = false := (hb1.frozen (p := ⟨w.heap.size, 0, none⟩) (by simp)).trans (by simp)
    have f1 : w1.frozen? ⟨w.heap.size, 1, none⟩ = false := (hb1.frozen (p := ⟨w.heap.size, 1, none⟩) (by simp)).trans (by simp)
    have f2 : w1.frozen? ⟨w.heap.size, 2, none⟩ = false := (hb1.frozen (p := ⟨w.heap.size, 2, none⟩) (by simp)).trans (by simp)
    have hsz : w.heap.size < w1.heap.size := by have := hb1.size; simp at this; omega
    have HB1 : Hid (Below w.heap.size w w1) := bel_trans b0.out hb1
    clear hb1
    generalize tokLen s.data.toList = n at *
    have hts : ((n : Int) == 0) = true ∨ ((n : Int) == 0) = false ∧ ((n : Int) == (s.size : Int)) = true ∨ ((n : Int) == 0) = false ∧ ((n : Int) == (s.size : Int)) = false ∧ ∃ h : n < s.size, ((s[n].toNat : Nat) : Int) = byt s n ∧ (byt s n != 61) = true := by
      by_cases h1 : n = 0
      · left; simp [h1]
      · by_cases h2 : n = s.size
        · right; left; exact ⟨by simp; omega, by simp [h2]⟩
        · right; right
          refine ⟨by simp; omega, by simp; omega, by omega, byt_at s n (by omega), ?_⟩
          simp only [bne_iff_ne]
          intro e
          refine hno ⟨by omega, by omega, ?_⟩
          unfold byt at e
          exact UInt8.toNat_inj.1 (by show _ = 61; omega)
    clear hno htd
    rcases hts with t1 | ⟨t1, t2⟩ | ⟨t1, t2, hlt, t3, t4⟩
    all_goals
      go_wp2
      refine bodyPost_ret (v := .tuple #[.agg #[.string (s.extract 0 n), .string ⟨#[]⟩, .bool false], .int .i64 n, .int .i64 0]) (by simp [results, Tryz.results275, go_sem, k0, k1, k2, hsz]) rfl ⟨?_, ?_⟩
      · rw [HR.out, HX.out]; rfl
      · exact (((HB1.out.setCell (Nat.le_refl _) _).setCell (Nat.le_refl _) _).setCell (Nat.le_refl _) _).alloc (by simp; omega) _
  | true =>
    have hyes := of_decide_eq_true htd
    rw [size_list] at hyes
    have HRP : Hid (rp s.data.toList = (rv (s.data.toList.drop (tokLen s.data.toList + 1))).map (fun x => ((s.data.toList.take (tokLen s.data.toList), x.1, true), tokLen s.data.toList + 1 + x.2))) := (by unfold rp; rw [if_pos htd] : rp s.data.toList = _)
    obtain ⟨y1, y2, y3⟩ := hyes
    have HEQ : Hid (byt s (tokLen s.data.toList) = 61) := (by unfold byt; rw [y3]; rfl : byt s (tokLen s.data.toList) = 61)
    have hby : ((s[tokLen s.data.toList].toNat : Nat) : Int) = byt s (tokLen s.data.toList) := byt_at s _ y2
    have HE : Hid ((s.extract (tokLen s.data.toList + 1) s.size).data.toList = s.data.toList.drop (tokLen s.data.toList + 1)) := Lib.extract_to_end s _
    clear htd y3
    go_enter Tryz.func275, Tryz.ntmps275
    go_wp2_with fail
    refine (tokenLength_any s HS.out _ HT1.out).mono ?_
    rintro e w1 ⟨rfl, hb1⟩
    have k0 : w1.cell? ⟨w.heap.size, 0, none⟩ = some (.string ⟨#[]⟩) := (hb1.cell (p := ⟨w.heap.size, 0, none⟩) (by simp)).trans (by simp)
    have k1 : w1.cell? ⟨w.heap.size, 1, none⟩ = some (.string ⟨#[]⟩) := (hb1.cell (p := ⟨w.heap.size, 1, none⟩) (by simp)).trans (by simp)
    have k2 : w1.cell? ⟨w.heap.size, 2, none⟩ = some (.bool false) := (hb1.cell (p := ⟨w.heap.size, 2, none⟩) (by simp)).trans (by simp)
    have f0 : w1.frozen? ⟨w.heap.size, 0, none⟩ = false := (hb1.frozen (p := ⟨w.heap.size, 0, none⟩) (by simp)).trans (by simp)
    have f1 : w1.frozen? ⟨w.heap.size, 1, none⟩ = false := (hb1.frozen (p := ⟨w.heap.size, 1, none⟩) (by simp)).trans (by simp)
    have f2 : w1.frozen? ⟨w.heap.size, 2, none⟩ = false := (hb1.frozen (p := ⟨w.heap.size, 2, none⟩) (by simp)).trans (by simp)
    have hsz : w.heap.size < w1.heap.size := by have := hb1.size; simp at this; omega
    have HB1 : Hid (Below w.heap.size w w1) := bel_trans b0.out hb1
    have HTw : Hid (Tab w1) := HT1.out.below hb1 (Nat.le_refl _)
    clear hb1
    generalize tokLen s.data.toList = n at *
    have t1 : ((n : Int) == 0) = false := by simp; omega
    have t2 : ((n : Int) == (s.size : Int)) = false := by simp; omega
    have t3 : (byt s n != 61) = false := by simp [HEQ.out]
    have bp : Below w1.heap.size w1 (w1.alloc (.cells #[.string (s.extract 0 n), .string ⟨#[]⟩, .bool false] 66)) := (Below.refl _ w1).alloc (Nat.le_refl _) _
    have HBp : Hid (Below w1.heap.size w1 (w1.alloc (.cells #[.string (s.extract 0 n), .string ⟨#[]⟩, .bool false] 66))) := bp
    have HTp : Hid (Tab (w1.alloc (.cells #[.string (s.extract 0 n), .string ⟨#[]⟩, .bool false] 66))) := HTw.out.below bp (Nat.le_refl _)
    clear bp
    go_wp2_with fail
    refine (readValue_any (s.extract (n + 1) s.size) (by simp; omega) _ HTp.out).mono ?_
    rintro e w2 ⟨rfl, hb2⟩
    rw [HE.out]
    have hb2' := hb2.mono (show w1.heap.size ≤ (w1.alloc (.cells #[.string (s.extract 0 n), .string ⟨#[]⟩, .bool false] 66)).heap.size by simp)
    have q0 : w2.cell? ⟨w.heap.size, 0, none⟩ = some (.string ⟨#[]⟩) := (hb2'.cell (p := ⟨w.heap.size, 0, none⟩) hsz).trans ((HBp.out.cell (p := ⟨w.heap.size, 0, none⟩) hsz).trans k0)
    have q1 : w2.cell? ⟨w.heap.size, 1, none⟩ = some (.string ⟨#[]⟩) := (hb2'.cell (p := ⟨w.heap.size, 1, none⟩) hsz).trans ((HBp.out.cell (p := ⟨w.heap.size, 1, none⟩) hsz).trans k1)
    have q2 : w2.cell? ⟨w.heap.size, 2, none⟩ = some (.bool false) := (hb2'.cell (p := ⟨w.heap.size, 2, none⟩) hsz).trans ((HBp.out.cell (p := ⟨w.heap.size, 2, none⟩) hsz).trans k2)
    have g0 : w2.frozen? ⟨w.heap.size, 0, none⟩ = false := (hb2'.frozen (p := ⟨w.heap.size, 0, none⟩) hsz).trans ((HBp.out.frozen (p := ⟨w.heap.size, 0, none⟩) hsz).trans f0)
    have g1 : w2.frozen? ⟨w.heap.size, 1, none⟩ = false := (hb2'.frozen (p := ⟨w.heap.size, 1, none⟩) hsz).trans ((HBp.out.frozen (p := ⟨w.heap.size, 1, none⟩) hsz).trans f1)
    have g2 : w2.frozen? ⟨w.heap.size, 2, none⟩ = false := (hb2'.frozen (p := ⟨w.heap.size, 2, none⟩) hsz).trans ((HBp.out.frozen (p := ⟨w.heap.size, 2, none⟩) hsz).trans f2)
    have p0 : w2.cell? ⟨w1.heap.size, 0, none⟩ = some (.string (s.extract 0 n)) := (hb2.cell (p := ⟨w1.heap.size, 0, none⟩) (by simp)).trans (by simp)
    have p1 : w2.cell? ⟨w1.heap.size, 1, none⟩ = some (.string ⟨#[]⟩) := (hb2.cell (p := ⟨w1.heap.size, 1, none⟩) (by simp)).trans (by simp)
    have p2 : w2.cell? ⟨w1.heap.size, 2, none⟩ = some (.bool false) := (hb2.cell (p := ⟨w1.heap.size, 2, none⟩) (by simp)).trans (by simp)
    have pf1 : w2.frozen? ⟨w1.heap.size, 1, none⟩ = false := (hb2.frozen (p := ⟨w1.heap.size, 1, none⟩) (by simp)).trans (by simp)
    have pf2 : w2.frozen? ⟨w1.heap.size, 2, none⟩ = false := (hb2.frozen (p := ⟨w1.heap.size, 2, none⟩) (by simp)).trans (by simp)
    have hs2 : w1.heap.size < w2.heap.size := by have := hb2.size; simp at this; omega
    have HB2 : Hid (Below w.heap.size w w2) := bel_trans (bel_trans HB1.out HBp.out) hb2
    clear hb2 hb2' k0 k1 k2 f0 f1 f2
    have hne : w1.heap.size ≠ w.heap.size := by omega
    cases hrv : rv (s.data.toList.drop (n + 1)) with
    | none =>
      have HV : Hid (rvR (s.data.toList.drop (n + 1)) = ([], 0, 15)) := (by unfold rvR; rw [hrv] : rvR _ = _)
      have HR : Hid (rpR s.data.toList = (([], [], false), 0, 15)) := (by unfold rpR; rw [HRP.out, hrv]; rfl : rpR _ = _)
      rw [HV.out]
      go_wp2
      refine bodyPost_ret (v := .tuple #[.agg #[.string ⟨#[]⟩, .string ⟨#[]⟩, .bool false], .int .i64 0, .int .i64 15]) (by simp [results, Tryz.results275, go_sem, q0, q1, q2]) rfl ⟨?_, ?_⟩
      · rw [HR.out]; rfl
      · exact ((HB2.out.setCell (Nat.le_refl _) _).setCell (Nat.le_refl _) _).setCell (Nat.le_refl _) _
    | some x =>
      have hx := rv_le _ x hrv
      rw [List.length_drop, size_list] at hx
      have HV : Hid (rvR (s.data.toList.drop (n + 1)) = (x.1, (x.2 : Int), 0)) := (by unfold rvR; rw [hrv] : rvR _ = _)
      have HR : Hid (rpR s.data.toList = ((s.data.toList.take n, x.1, true), ((n + 1 + x.2 : Nat) : Int), 0)) := (by unfold rpR; rw [HRP.out, hrv]; rfl : rpR _ = _)
      rw [HV.out]
      generalize hy : str x.1 = y
      have HY : Hid (str x.1 = y) := hy
      clear hy
      go_wp2
      refine bodyPost_ret (v := .tuple #[.agg #[.string (s.extract 0 n), .string y, .bool true], .int .i64 ((n : Int) + 1 + (x.2 : Int)), .int .i64 0]) (by simp [results, Tryz.results275, go_sem, q0, q1, q2, hne]) rfl ⟨?_, ?_⟩
      · rw [HR.out, HX.out]
        show _ = Ending.returned (.tuple #[.agg #[.string (str (s.data.toList.take n)), .string (str x.1), .bool true], .int .i64 ((n + 1 + x.2 : Nat) : Int), .int .i64 0])
        rw [HY.out, show ((n + 1 + x.2 : Nat) : Int) = (n : Int) + 1 + (x.2 : Int) by omega]
      · exact ((((HB2.out.setCell (by show w.heap.size ≤ w1.heap.size; omega) _).setCell (by show w.heap.size ≤ w1.heap.size; omega) _).setCell (Nat.le_refl _) _).setCell (Nat.le_refl _) _).setCell (Nat.le_refl _) _

end Oc
end Go.Proofs.YticncpjpkgdnlaaGreatDoor
