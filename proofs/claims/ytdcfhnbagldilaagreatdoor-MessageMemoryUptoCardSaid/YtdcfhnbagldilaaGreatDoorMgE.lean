import Derived.Test.YtdcfhnbagldilaaGreatDoorMgD
import Derived.Test.YtdcfhnbagldilaaGreatDoorMgB
import Derived.Shelf.Strings.Builder1
import Derived.Test.YtdcfhnbagldilaaGreatDoorMgC
import Derived.Laws.BytesArg
import Derived.WalkMore
set_option linter.unusedVariables false
set_option linter.unusedSimpArgs false
namespace Go.Proofs.YtdcfhnbagldilaaGreatDoor
namespace Oc
def addEl (x : List UInt8) (t : List (List UInt8)) : List (List UInt8) := if x = [] then t else x :: t
def lgo : Nat → List UInt8 → List UInt8 → Option (List (List UInt8))
  | 0, _, _ => none
  | f + 1, cur, [] => some (addEl (trim cur) [])
  | f + 1, cur, c :: r =>
    if c = 44 then (lgo f [] r).map (addEl (trim cur))
    else if c = 34 then (if qlen (c :: r) = 0 then none else lgo f (cur ++ (c :: r).take (qlen (c :: r))) ((c :: r).drop (qlen (c :: r))))
    else lgo f (cur ++ [c]) r
def lst (cur r : List UInt8) : Option (List (List UInt8)) := lgo (r.length + 1) cur r
theorem lgo_fuel : ∀ (n : Nat) (r : List UInt8) (f : Nat) (cur : List UInt8), r.length ≤ n → r.length < f → lgo f cur r = lst cur r
  | n, [], 0, cur, _, h => by simp at h
  | n, [], f + 1, cur, _, _ => rfl
  | 0, c :: r, f, cur, h, _ => by simp at h
  | n + 1, c :: r, 0, cur, _, h => by simp at h
  | n + 1, c :: r, f + 1, cur, hn, hf => by
    have hl : r.length ≤ n := by simpa using hn
    have hf' : r.length < f := by simpa using hf
    unfold lst
    show lgo (f + 1) cur (c :: r) = lgo (r.length + 1 + 1) cur (c :: r)
    rw [lgo, lgo]
    by_cases h44 : c = 44
    · rw [if_pos h44, if_pos h44, lgo_fuel n r f [] hl hf', lgo_fuel n r (r.length + 1) [] hl (by omega)]
    · rw [if_neg h44, if_neg h44]
      by_cases h34 : c = 34
      · rw [if_pos h34, if_pos h34]
        by_cases hq : qlen (c :: r) = 0
        · rw [if_pos hq, if_pos hq]
        · rw [if_neg hq, if_neg hq]
          have hd : ((c :: r).drop (qlen (c :: r))).length ≤ r.length := by
            rw [List.length_drop]
            simp
            omega
          rw [lgo_fuel n _ f _ (by omega) (by omega), lgo_fuel n _ (r.length + 1) _ (by omega) (by omega)]
      · rw [if_neg h34, if_neg h34, lgo_fuel n r f _ hl hf', lgo_fuel n r (r.length + 1) _ hl (by omega)]
theorem lst_nil (cur : List UInt8) : lst cur [] = some (addEl (trim cur) []) := rfl
theorem lst_comma (cur r : List UInt8) (c : UInt8) (h : c = 44) : lst cur (c :: r) = (lst [] r).map (addEl (trim cur)) := by
  unfold lst
  show lgo (r.length + 1 + 1) cur (c :: r) = _
  rw [lgo, if_pos h]
theorem lst_bad (cur r : List UInt8) (c : UInt8) (h : c = 34) (hq : qlen (c :: r) = 0) : lst cur (c :: r) = none := by
  unfold lst
  show lgo (r.length + 1 + 1) cur (c :: r) = _
  rw [lgo, if_neg (by rw [h]; decide), if_pos h, if_pos hq]
theorem lst_quote (cur r : List UInt8) (c : UInt8) (h : c = 34) (hq : ¬ qlen (c :: r) = 0) : lst cur (c :: r) = lst (cur ++ (c :: r).take (qlen (c :: r))) ((c :: r).drop (qlen (c :: r))) := by
  have hd : ((c :: r).drop (qlen (c :: r))).length ≤ r.length := by
    rw [List.length_drop]
    simp
    omega
  rw [← lgo_fuel ((c :: r).drop (qlen (c :: r))).length _ (r.length + 1) _ (Nat.le_refl _) (by omega)]
  unfold lst
  show lgo (r.length + 1 + 1) cur (c :: r) = _
  rw [lgo, if_neg (by rw [h]; decide), if_pos h, if_neg hq]
theorem lst_on (cur r : List UInt8) (c : UInt8) (h : c ≠ 44) (h2 : c ≠ 34) : lst cur (c :: r) = lst (cur ++ [c]) r := by
  unfold lst
  show lgo (r.length + 1 + 1) cur (c :: r) = _
  rw [lgo, if_neg h, if_neg h2]
def listR (l : List UInt8) : List (List UInt8) × Int := match lst [] l with | some t => (t, 0) | none => ([], 14)
theorem listR_some {l : List UInt8} {t : List (List UInt8)} (h : lst [] l = some t) : listR l = (t, 0) := by unfold listR; rw [h]
theorem listR_none {l : List UInt8} (h : lst [] l = none) : listR l = ([], 14) := by unfold listR; rw [h]
theorem addEl_none {x : List UInt8} (h : x = []) (t : List (List UInt8)) : addEl x t = t := by unfold addEl; rw [if_pos h]
theorem addEl_some {x : List UInt8} (h : x ≠ []) (t : List (List UInt8)) : addEl x t = x :: t := by unfold addEl; rw [if_neg h]
theorem addEl_app (x : List UInt8) (t : List (List UInt8)) : addEl x t = addEl x [] ++ t := by unfold addEl; split <;> simp
end Oc
end Go.Proofs.YtdcfhnbagldilaaGreatDoor
set_option linter.unusedVariables false
set_option linter.unusedSimpArgs false
namespace Go.Proofs.YtdcfhnbagldilaaGreatDoor
open Go.RowKit Go.Shelf
namespace Oc
theorem sizeB : (Tryz.prog.info? 105).map (·.size) = some 2 := by kernel_rfl
theorem liesB : liesAt Tryz.prog Tryz.prog.depth 105 (2 / Tryz.prog.cellsOf 105) 0 105 1 = true := by kernel_rfl
theorem infoByte : (Tryz.prog.info? 5).map (fun i => (i.zero, i.size, i.bytes)) = some (some (.int .u8 0), 1, 1) := by kernel_rfl
def Marked (w w' : World) : Prop := ∀ (k : Nat) (C : Array Value) (t : TypeId) (m : Nat × Nat), w.heap[k]? = some (Obj.cells C t m) → m ≠ (0, 0) → w'.heap[k]? = w.heap[k]?
theorem Marked.refl (w : World) : Marked w w := fun _ _ _ _ _ _ => rfl
theorem Marked.trans {a b c : World} (h : Marked a b) (g : Marked b c) : Marked a c := fun k C t m hk hm => by
  have h1 := h k C t m hk hm
  rw [g k C t m (h1.trans hk) hm, h1]
set_option maxHeartbeats 1000000 in
set_option maxRecDepth 100000 in
theorem copyCheck_used (b : Nat) (w : World) (h0 : w.cell? ⟨b, 0, none⟩ = some (.pointer (some ⟨b, 0, none⟩))) :
    Calls Tryz.prog 96 #[.pointer (some ⟨b, 0, none⟩)] w fun e w' => e = .returned (.tuple #[]) ∧ w' = w := by
  obtain ⟨j, hj, _⟩ := Option.map_eq_some_iff.1 sizeB
  go_enter Tryz.func96, Tryz.ntmps96
  go_wp2
  rw [Lib.run_neq_ptr_same w _ Tryz.underlying103 hj]
  go_wp2
  go_end0
  exact ⟨rfl, rfl⟩
set_option maxHeartbeats 1000000 in
set_option maxRecDepth 100000 in
theorem copyCheck_fresh (b : Nat) (w : World) (h0 : w.cell? ⟨b, 0, none⟩ = some (.pointer none)) (hsh : w.shape? b = some (105, 2)) (hfz : w.frozen? ⟨b, 0, none⟩ = false) :
    Calls Tryz.prog 96 #[.pointer (some ⟨b, 0, none⟩)] w fun e w' => e = .returned (.tuple #[]) ∧ w' = w.setCell ⟨b, 0, none⟩ (.pointer (some ⟨b, 0, none⟩)) := by
  obtain ⟨j, hj, hjs⟩ := Option.map_eq_some_iff.1 sizeB
  go_enter Tryz.func96, Tryz.ntmps96
  go_wp2
  rw [Lib.run_to_unsafe w ⟨b, 0, none⟩ Tryz.underlying103 Tryz.underlying155 hj (by rw [hjs]; decide) hsh (Nat.zero_lt_succ 1)]
  simp only [Result.andThen]
  rw [Oper.upon_value]
  go_wp2
  rw [run_callFunc_extern Tryz.func117 (by kernel_rfl) (by kernel_rfl) (by kernel_rfl) (e := Extern.AbiNoEscape.same) (by kernel_rfl)]
  rw [Lib.run_noEscape]
  simp only [Result.andThen]
  rw [Oper.upon_value]
  go_wp2
  rw [Lib.run_from_unsafe w ⟨b, 0, none⟩ Tryz.underlying155 Tryz.underlying103 hj hsh liesB]
  simp only [Result.andThen]
  rw [Oper.upon_value]
  go_wp2
  go_end0
  exact ⟨rfl, rfl⟩
theorem marked_set {w : World} {b j : Nat} {cs : Array Value} {T : TypeId} (hb : w.heap[b]? = some (.cells cs T (0, 0))) (v : Value) : Marked w (w.setCell ⟨b, j, none⟩ v) := by
  intro k C t m hk hm
  refine Below.heap_setCell _ _ _ _ (fun e => ?_)
  have e : k = b := e
  subst e
  rw [hb] at hk
  simp only [Option.some.injEq, Obj.cells.injEq] at hk
  exact hm hk.2.2.symm
theorem marked_grown {w w' : World} {B : Nat} {v : Value} {n : Nat} {xs : List Value} (hg : w.grownBy w' v.ownBlock) (ho : w.ownsRow B 5 1 v n xs) : Marked w w' := by
  intro k C t m hk hm
  have hlt : k < w.heap.size := by
    rcases Nat.lt_or_ge k w.heap.size with h | h
    · exact h
    · simp [Array.getElem?_eq_none h] at hk
  refine hg.block k hlt (fun e => ?_)
  rcases ho.2 with ⟨rfl, _⟩ | ⟨g, cap, cur, rfl, _, hgg, _⟩
  · simp [Value.ownBlock] at e
  · simp only [Value.ownBlock, Option.some.injEq] at e
    subst e
    rw [hgg] at hk
    simp only [Option.some.injEq, Obj.cells.injEq] at hk
    exact hm hk.2.2.symm
theorem marked_alloc (w : World) (o : Obj) : Marked w (w.alloc o) := by
  intro k C t m hk hm
  have hlt : k < w.heap.size := by
    rcases Nat.lt_or_ge k w.heap.size with h | h
    · exact h
    · simp [Array.getElem?_eq_none h] at hk
  exact Lib.alloc_old w o k hlt
theorem copyCheck_any (B b : Nat) (bs : List Value) (w : World) (h : Lib.IsBuilder 105 5 B b bs w) :
    Calls Tryz.prog 96 #[.pointer (some ⟨b, 0, none⟩)] w fun e w' => e = .returned (.tuple #[]) ∧ (Lib.BuilderAt 105 5 B b (.pointer (some ⟨b, 0, none⟩)) bs w' ∧ Below B w w' ∧ Marked w w') := by
  rcases h with h | h
  · refine (copyCheck_fresh b w h.cell0 h.shape h.frozen0).mono ?_
    rintro e w' ⟨rfl, rfl⟩
    refine ⟨rfl, h.used _, (Below.refl B w).setCell (p := ⟨b, 0, none⟩) h.1 _, ?_⟩
    obtain ⟨_, v, hb, _⟩ := h
    exact marked_set hb _
  · refine (copyCheck_used b w h.cell0).mono ?_
    rintro e w' ⟨rfl, rfl⟩
    exact ⟨rfl, h, Below.refl B _, Marked.refl _⟩
set_option maxHeartbeats 2000000 in
set_option maxRecDepth 100000 in
theorem WriteByte_any (B b : Nat) (bs : List Value) (c : Int) (w : World) (h : Lib.IsBuilder 105 5 B b bs w) (hlen : bs.length + 1 ≤ 140737488355328) (hBw : B ≤ w.heap.size) :
    Calls Tryz.prog 174 #[.pointer (some ⟨b, 0, none⟩), .int .u8 c] w fun e w' => e = .returned .nilIface ∧ (Lib.BuilderAt 105 5 B b (.pointer (some ⟨b, 0, none⟩)) (bs ++ [.int .u8 c]) w' ∧ Below B w w' ∧ Marked w w') := by
  obtain ⟨i0, hi, hz0, hz1, hz2⟩ := info_parts infoByte
  go_enter Tryz.func174, Tryz.ntmps174
  go_wp2_with fail
  refine (copyCheck_any B b bs _ h).mono ?_
  rintro e w1 ⟨rfl, h1, hb1, hm1⟩
  obtain ⟨hB, v, hbk, hown, hne⟩ := h1
  have c0 : w1.cell? ⟨b, 0, none⟩ = some (.pointer (some ⟨b, 0, none⟩)) := by rw [Lib.cell_of_heap hbk]; rfl
  have c1 : w1.cell? ⟨b, 1, none⟩ = some v := by rw [Lib.cell_of_heap hbk]; rfl
  have HM1 : Hid (Marked w w1) := hm1
  clear hm1
  go_wp2_with (at_builtin; refine wpList_append_own _ rfl _ _ 53 rfl B 5 i0 (.int .u8 0) 1 1 Tryz.underlying53 hi hz0 hz1 hz2 rfl (by decide) _ _ _ rfl (hown.alloc _) ⟨w1.heap.size, 0, none⟩ 1 1 [.int .u8 c] rfl rfl ?c1 ?c2 ?c3 ?c4 ?c5 ?_)
  case c1 =>
    intro j u hj
    match j, hj with
    | 0, hj => simp at hj; subst hj; simp [Addr.add]
  case c2 => intro u hu; simp at hu; subst hu; rfl
  case c3 => unfold maxLen; omega
  case c4 => omega
  case c5 => have := hb1.size; simp; omega
  intro v' w2 hown' hgrow _
  have hlt : b < w1.heap.size := by
    rcases Nat.lt_or_ge b w1.heap.size with h' | h'
    · exact h'
    · simp [Array.getElem?_eq_none h'] at hbk
  have hb2 : w2.heap[b]? = some (.cells #[.pointer (some ⟨b, 0, none⟩), v] 105 (0, 0)) := by
    rw [hgrow.block b (by simp; omega) (fun e => hne e.symm), Lib.alloc_old w1 _ b hlt]
    exact hbk
  have d0 : w2.cell? ⟨b, 0, none⟩ = some (.pointer (some ⟨b, 0, none⟩)) := by rw [Lib.cell_of_heap hb2]; rfl
  have d1 : w2.cell? ⟨b, 1, none⟩ = some v := by rw [Lib.cell_of_heap hb2]; rfl
  have f1 : w2.frozen? ⟨b, 1, none⟩ = false := Lib.frozen_of_heap hb2 1
  obtain ⟨g, cap, rfl⟩ : ∃ g cap, v' = .slice (some ⟨g, 0, none⟩) (bs.length + 1) cap := by
    rcases hown'.2 with ⟨_, h0⟩ | ⟨g, cap, cur, hv, _⟩
    · omega
    · exact ⟨g, cap, hv⟩
  have HM2 : Hid (Marked w w2) := (HM1.out.trans (marked_alloc w1 _)).trans (marked_grown hgrow (hown.alloc _))
  go_wp2
  go_ret
  refine ⟨rfl, ?_, ?_, ?_⟩
  · exact Lib.BuilderAt.put (T := 105) (e := 5) hB hb2 (bs' := bs ++ [.int .u8 c]) (by simpa using hown') (by decide)
  · exact ((hb1.alloc (by have := hb1.size; omega) _).grown hgrow (by have := hb1.size; simp; omega) (fun k hk => (hown.lt k hk).1)).setCell (p := ⟨b, 1, none⟩) hB _
  · exact HM2.out.trans (marked_set hb2 _)
end Oc
end Go.Proofs.YtdcfhnbagldilaaGreatDoor
set_option linter.unusedVariables false
set_option linter.unusedSimpArgs false
namespace Go.Proofs.YtdcfhnbagldilaaGreatDoor
open Go.RowKit Go.Shelf
namespace Oc
abbrev BldU (B b : Nat) (l : List UInt8) (w : World) : Prop := Lib.BuilderAt 105 5 B b (.pointer (some ⟨b, 0, none⟩)) (Lib.byteCells l) w
theorem cells_snoc (l : List UInt8) (c : UInt8) : Lib.byteCells l ++ [.int .u8 (c.toNat : Int)] = Lib.byteCells (l ++ [c]) := by simp [Lib.byteCells]
theorem cells_len (l : List UInt8) : (Lib.byteCells l).length = l.length := by simp [Lib.byteCells]
theorem bld_new (w : World) : Lib.BuilderAt 105 5 w.heap.size w.heap.size (.pointer none) (Lib.byteCells []) (w.alloc (.cells #[.pointer none, .slice none 0 0] 105)) := by
  refine ⟨Nat.le_refl _, .slice none 0 0, heap_alloc_new w _, World.ownsRow_nil _ _ _ _, by simp [Value.ownBlock]⟩
theorem grown_bytes (w : World) (s : ByteArray) : w.grownBy (Lib.bytesWorld w 5 s) none :=
  ⟨(below_bytes w 5 s).os, (below_bytes w 5 s).tape, (below_bytes w 5 s).output, (below_bytes w 5 s).size, fun k hk _ => Lib.bytesWorld_at_old w 5 s k hk⟩
theorem bld_bytes {B b : Nat} {p : Value} {bs : List Value} {w : World} (h : Lib.BuilderAt 105 5 B b p bs w) (s : ByteArray) : Lib.BuilderAt 105 5 B b p bs (Lib.bytesWorld w 5 s) := by
  have hlt := h.lt
  obtain ⟨hB, v, hb, hown, hne⟩ := h
  refine ⟨hB, v, by rw [Lib.bytesWorld_at_old w 5 s b hlt]; exact hb, hown.kept (grown_bytes w s) ?_, hne⟩
  cases hv : v.ownBlock with
  | none => exact .inl rfl
  | some k => exact .inr (by simp)
def RowAt (w2 : World) (s : ByteArray) (w : World) : Prop := w.heap[w2.heap.size]? = (Lib.bytesWorld w2 5 s).heap[w2.heap.size]?
theorem RowAt.cell {w2 w : World} {s : ByteArray} (h : RowAt w2 s w) (j : Nat) (hj : j < s.size) : w.cell? ⟨w2.heap.size, j, none⟩ = some (.int .u8 (byt s j)) := by
  rw [World.cell?_of_block (w := Lib.bytesWorld w2 5 s) (a := ⟨w2.heap.size, j, none⟩) h]
  exact bytes_cell w2 5 s j hj
theorem RowAt.marked {w2 w w' : World} {s : ByteArray} (h : RowAt w2 s w) (m : Marked w w') : RowAt w2 s w' := by
  have h1 := h
  unfold RowAt at h1
  rw [Lib.bytesWorld_at_new] at h1
  unfold RowAt
  rw [m _ _ _ _ h1 (by simp)]
  exact h
set_option maxRecDepth 100000 in
set_option maxHeartbeats 1000000 in
theorem Quote_any (s : ByteArray) (hs : s.size ≤ 16777216) (w : World) :
    Calls Tryz.prog 152 #[.string s] w fun e w' => e = .returned (.tuple #[.string (str (quoteR s.data.toList).1), .int .i64 (quoteR s.data.toList).2]) ∧ Below w.heap.size w w' := by
  have HS : Hid (s.size ≤ maxLen) := (by unfold maxLen; omega : s.size ≤ maxLen)
  cases hf : isFld s.data.toList with
  | false =>
    have HQ : Hid (quoteR s.data.toList = ([], 13)) := (by unfold quoteR; rw [hf]; rfl : quoteR s.data.toList = ([], 13))
    go_enter Tryz.func152, Tryz.ntmps152
    go_wp2_with fail
    refine (IsField_any s HS.out _).mono ?_
    rintro e w1 ⟨rfl, hb1⟩
    rw [hf]
    go_wp2
    go_ret2
    rw [HQ.out]
    exact ⟨rfl, hb1⟩
  | true =>
    have HQ : Hid (quoteR s.data.toList = (qText s.data.toList, 0)) := (by unfold quoteR; rw [hf]; rfl : quoteR s.data.toList = (qText s.data.toList, 0))
    have hcv := fun w => Lib.run_convert_string_bytes (P := Tryz.prog) w 9 53 5 s Tryz.underlying9 Tryz.underlying53 Tryz.underlying5
    go_enter Tryz.func152, Tryz.ntmps152
    go_wp2_with fail
    refine (IsField_any s HS.out _).mono ?_
    rintro e w1 ⟨rfl, hb1⟩
    rw [hf]
    have HB1 : Hid (Below w.heap.size w w1) := hb1
    clear hb1
    go_wp2_with fail
    refine (WriteByte_any w1.heap.size w1.heap.size (Lib.byteCells []) 34 _ (.inl (bld_new w1)) (by simp [Lib.byteCells]) (by simp)).mono ?_
    rintro e w2 ⟨rfl, hbd, hbl, hmk⟩
    have HD : Hid (BldU w1.heap.size w1.heap.size [34] w2) := hbd
    have hlt : w1.heap.size < w2.heap.size := hbd.lt
    have HL : Hid (Below w1.heap.size w1 w2) := ((Below.refl _ w1).alloc (Nat.le_refl _) _).trans hbl
    clear hbd hbl hmk
    go_wp2
    go_loopw [14] (fun i wr => ∃ k : Nat, k ≤ s.size ∧ i = .int .i64 k ∧ Hid (BldU w1.heap.size w1.heap.size (34 :: qBody (s.data.toList.take k)) wr) ∧ Hid (RowAt w2 s wr) ∧ Hid (Below w1.heap.size w1 wr)) (fun i _ => s.size - (intOf i).toNat)
    case atStart => exact ⟨0, Nat.zero_le _, rfl, bld_bytes HD.out s, (rfl : RowAt w2 s _), HL.out.trans ((below_bytes w2 5 s).mono (by omega))⟩
    case round =>
      obtain ⟨k, hk, rfl, hbd, hrow, hbl⟩ := hrel
      clear hcv
      have hsz := hbl.out.size
      have hlen : ∀ j, j ≤ s.size → (Lib.byteCells (34 :: qBody (s.data.toList.take j))).length ≤ 33554434 := by
        intro j hj
        rw [cells_len]
        have := qBody_le (s.data.toList.take j)
        have := List.length_take_le j s.data.toList
        simp
        omega
      have HLen : Hid (∀ j, j ≤ s.size → (Lib.byteCells (34 :: qBody (s.data.toList.take j))).length ≤ 33554434) := hlen
      clear hlen
      by_cases hlt : k < s.size
      · have hck := hrow.out.cell k hlt
        obtain ⟨b0, b1⟩ := byt_bd s k
        have HN : Hid (34 :: qBody (s.data.toList.take (k + 1)) = 34 :: qBody (s.data.toList.take k) ++ qByte (s.data.toList.getD k 0)) := by
          show _ = _
          rw [take_snoc s k hlt, qBody_snoc]
          rfl
        have HC : Hid (byt s k = ((s.data.toList.getD k 0).toNat : Int)) := rfl
        by_cases hq : byt s k = 34 ∨ byt s k = 92
        · have HQ2 : Hid (qByte (s.data.toList.getD k 0) = [92, s.data.toList.getD k 0]) := by
            show qByte _ = _
            unfold qByte
            rw [if_pos]
            have := HC.out
            rcases hq with h | h
            · exact .inl (UInt8.toNat_inj.1 (by show _ = 34; omega))
            · exact .inr (UInt8.toNat_inj.1 (by show _ = 92; omega))
          have hq' : (byt s k == 34) = true ∨ (byt s k == 34) = false ∧ (byt s k == 92) = true := by
            by_cases h : byt s k = 34
            · left; simp [h]
            · right; exact ⟨by simp [h], by simp; omega⟩
          clear hq
          rcases hq' with hq | ⟨hq, hq2⟩
          all_goals
            go_wp2_with fail
            refine (WriteByte_any w1.heap.size w1.heap.size _ 92 _ (.inr hbd.out) (by have := HLen.out k hk; omega) (by omega)).mono ?_
            rintro e w3 ⟨rfl, hbd3, hbl3, hmk3⟩
            have HD3 : Hid (BldU w1.heap.size w1.heap.size (34 :: qBody (s.data.toList.take k) ++ [92]) w3) := (by rw [← cells_snoc]; exact hbd3 : Lib.BuilderAt _ _ _ _ _ _ w3)
            have HR3 : Hid (RowAt w2 s w3) := hrow.out.marked hmk3
            have HB3 : Hid (Below w1.heap.size w1 w3) := hbl.out.trans hbl3
            have hsz3 := HB3.out.size
            clear hbd3 hbl3 hmk3
            go_wp2_with fail
            refine (WriteByte_any w1.heap.size w1.heap.size _ (byt s k) _ (.inr HD3.out) (by have := HLen.out k hk; rw [cells_len] at this; rw [cells_len, List.length_append]; simp at this ⊢; omega) (by omega)).mono ?_
            rintro e w4 ⟨rfl, hbd4, hbl4, hmk4⟩
            have HD4 : Hid (BldU w1.heap.size w1.heap.size (34 :: qBody (s.data.toList.take (k + 1))) w4) := (by
              have h := hbd4
              rw [HC.out, cells_snoc] at h
              rw [HN.out, HQ2.out]
              simpa using h : Lib.BuilderAt _ _ _ _ _ _ w4)
            have HR4 : Hid (RowAt w2 s w4) := HR3.out.marked hmk4
            have HB4 : Hid (Below w1.heap.size w1 w4) := HB3.out.trans hbl4
            clear hbd4 hbl4 hmk4
            go_wp2
            go_roundw
            case rel => exact ⟨k + 1, by omega, by go_num, HD4, HR4, HB4⟩
            case measure => simp [intOf]; omega
        · have HQ1 : Hid (qByte (s.data.toList.getD k 0) = [s.data.toList.getD k 0]) := by
            show qByte _ = _
            unfold qByte
            rw [if_neg]
            have := HC.out
            rintro (h | h)
            · rw [h] at this; exact hq (.inl this)
            · rw [h] at this; exact hq (.inr this)
          have hq1 : (byt s k == 34) = false := by simp; omega
          have hq2 : (byt s k == 92) = false := by simp; omega
          clear hq
          go_wp2_with fail
          refine (WriteByte_any w1.heap.size w1.heap.size _ (byt s k) _ (.inr hbd.out) (by have := HLen.out k hk; omega) (by omega)).mono ?_
          rintro e w4 ⟨rfl, hbd4, hbl4, hmk4⟩
          have HD4 : Hid (BldU w1.heap.size w1.heap.size (34 :: qBody (s.data.toList.take (k + 1))) w4) := (by
            have h := hbd4
            rw [HC.out, cells_snoc] at h
            rw [HN.out, HQ1.out]
            exact h : Lib.BuilderAt _ _ _ _ _ _ w4)
          have HR4 : Hid (RowAt w2 s w4) := hrow.out.marked hmk4
          have HB4 : Hid (Below w1.heap.size w1 w4) := hbl.out.trans hbl4
          clear hbd4 hbl4 hmk4
          go_wp2
          go_roundw
          case rel => exact ⟨k + 1, by omega, by go_num, HD4, HR4, HB4⟩
          case measure => simp [intOf]; omega
      · obtain rfl : k = s.size := by omega
        go_wp2_with fail
        refine (WriteByte_any w1.heap.size w1.heap.size _ 34 _ (.inr hbd.out) (by have := HLen.out _ hk; omega) (by omega)).mono ?_
        rintro e w3 ⟨rfl, hbd3, hbl3, hmk3⟩
        have HD3 : Hid (BldU w1.heap.size w1.heap.size (qText s.data.toList) w3) := (by
          have h := hbd3
          rw [show (34 : Int) = ((34 : UInt8).toNat : Int) from rfl, cells_snoc, List.take_of_length_le (by simp)] at h
          exact h : Lib.BuilderAt _ _ _ _ _ _ w3)
        have HB3 : Hid (Below w1.heap.size w1 w3) := hbl.out.trans hbl3
        have hsz3 := HB3.out.size
        clear hbd3 hbl3 hmk3
        go_wp2_with fail
        refine (Tryz.Builder_String_any w1.heap.size w1.heap.size (qText s.data.toList) _ (.inr HD3.out) (by omega)).mono ?_
        rintro e w4 ⟨rfl, hbl4⟩
        go_wp2
        go_ret2
        rw [HQ.out]
        exact ⟨rfl, HB1.out.trans ((HB3.out.trans hbl4).mono HB1.out.size)⟩
end Oc
end Go.Proofs.YtdcfhnbagldilaaGreatDoor
set_option linter.unusedVariables false
set_option linter.unusedSimpArgs false
namespace Go.Proofs.YtdcfhnbagldilaaGreatDoor
open Go.RowKit Go.Shelf
namespace Oc
def Own (B : Nat) (v : Value) (l : List UInt8) (w : World) : Prop := w.ownsRow B 5 1 v l.length (Lib.byteCells l)
theorem Own.alloc {B : Nat} {v : Value} {l : List UInt8} {w : World} (h : Own B v l w) (o : Obj) : Own B v l (w.alloc o) := World.ownsRow.alloc h o
theorem own_back {B : Nat} {v : Value} {l : List UInt8} {w : World} (h : Own B v l w) : (convert 53 9 v).run Tryz.prog w = .ok (.string (str l)) w := by
  rcases h.2 with ⟨rfl, h0⟩ | ⟨g, cap, cur, rfl, _, hg, hn, _, hsz, htake⟩
  · have e : l = [] := List.length_eq_zero_iff.1 h0
    subst e
    rw [run_convert_bytes_nil (P := Tryz.prog) w 53 5 Tryz.underlying53 Tryz.underlying5 0 0 9 Tryz.underlying9]
    rfl
  · refine run_convert_bytes_back w 53 9 5 ⟨g, 0, none⟩ cap l Tryz.underlying53 Tryz.underlying5 Tryz.underlying9 (fun j hj => ?_)
    refine World.ownsRow.cells h (g := g) rfl j _ ?_
    simp [Lib.byteCells, hj]
theorem own_one (w : World) (c : Int) (u : UInt8) (h : c = (u.toNat : Int)) : Own w.heap.size (.slice (some ⟨w.heap.size, 0, none⟩) 1 1) [u] (w.alloc (.cells #[.int .u8 c] 5)) := by
  subst h
  refine ⟨by simp [Lib.byteCells], .inr ⟨w.heap.size, 1, #[.int .u8 (u.toNat : Int)], rfl, Nat.le_refl _, heap_alloc_new w _, by simp, by decide, by simp, by simp [Lib.byteCells]⟩⟩
theorem own_snoc {B : Nat} {v : Value} {l : List UInt8} {u : UInt8} {w : World} (h : w.ownsRow B 5 1 v (l.length + 1) (Lib.byteCells l ++ [.int .u8 (u.toNat : Int)])) : Own B v (l ++ [u]) w := by
  rw [cells_snoc] at h
  unfold Own
  rw [List.length_append]
  exact h
theorem info5 : ∃ i, Tryz.prog.info? 5 = some i ∧ i.zero = some (.int .u8 0) ∧ i.size = 1 ∧ i.bytes = 1 := by
  obtain ⟨i0, hi, hz0, hz1, hz2⟩ := info_parts infoByte
  exact ⟨i0, hi, hz0, hz1, hz2⟩
theorem wp_app {ops : Array Oper} {rest : List Oper} {o : Oper} {a : Act} {Q : Exit → Act → World → Prop} (hgd : o.guard = none) (s x : Operand)
    (ho : o.op = .call { callee := .builtin .append, args := #[s, x], argTypes := #[53, 53] }) (B : Nat) (v : Value) (l : List UInt8) (W : World) (c : Int) (u : UInt8) (hc : c = (u.toNat : Int))
    (hs : a.eval s = v) (hown : Own B v l W) (hx : a.eval x = .slice (some ⟨W.heap.size, 0, none⟩) 1 1) (hlen : l.length + 1 ≤ 140737488355328) (hB : B ≤ W.heap.size)
    (h : ∀ v' w', Own B v' (l ++ [u]) w' → Below B W w' → Marked W w' → wpList Tryz.prog ops Q rest (a.put o.dst v') w') : wpList Tryz.prog ops Q (o :: rest) a (W.alloc (.cells #[.int .u8 c] 5)) := by
  obtain ⟨i0, hi, hz0, hz1, hz2⟩ := info5
  refine wpList_append_own _ hgd s x 53 ho B 5 i0 (.int .u8 0) 1 1 Tryz.underlying53 hi hz0 hz1 hz2 rfl (by decide) v l.length _ hs (World.ownsRow.alloc hown _) ⟨W.heap.size, 0, none⟩ 1 1 [.int .u8 c] hx rfl ?_ ?_ ?_ ?_ ?_ ?_
  · intro j u hj
    match j, hj with
    | 0, hj => simp at hj; subst hj; simp [Addr.add]
  · intro u hu; simp at hu; subst hu; rfl
  · unfold maxLen; omega
  · omega
  · simp; omega
  · intro v' w' h1 h2 _
    subst hc
    exact h v' w' (own_snoc h1) (((Below.refl B W).alloc hB _).grown h2 (by simp; omega) (fun k hk => (World.ownsRow.lt hown k hk).1)) ((marked_alloc W _).trans (marked_grown h2 (World.ownsRow.alloc hown _)))
end Oc
end Go.Proofs.YtdcfhnbagldilaaGreatDoor
set_option linter.unusedVariables false
set_option linter.unusedSimpArgs false
namespace Go.Proofs.YtdcfhnbagldilaaGreatDoor
open Go.RowKit Go.Shelf
namespace Oc
theorem prefix_quote (s : ByteArray) : Lib.hasPrefix s.data.toList (⟨#[34]⟩ : ByteArray).data.toList = decide (0 < s.size ∧ byt s 0 = 34) := by
  unfold Lib.hasPrefix byt
  rw [← size_list]
  cases s.data.toList with
  | nil => simp
  | cons c l =>
    have e : (⟨#[34]⟩ : ByteArray).data.toList = [34] := rfl
    rw [e, Bool.eq_iff_iff, decide_eq_true_iff]
    simp only [List.isPrefixOf_cons_cons, List.isPrefixOf_nil_left, Bool.and_true, beq_iff_eq, List.length_cons, List.getD_cons_zero]
    constructor
    · intro h; subst h; exact ⟨by omega, rfl⟩
    · rintro ⟨_, h⟩
      exact (UInt8.toNat_inj.1 (by show c.toNat = 34; omega)).symm
theorem qlen_none (s : ByteArray) (h : ¬ (0 < s.size ∧ byt s 0 = 34)) : qlen s.data.toList = 0 := by
  by_cases hz : s.size = 0
  · rw [List.length_eq_zero_iff.1 ((size_list s).trans hz)]; rfl
  · rw [cons_of hz]
    rw [qlen_cons, if_neg]
    intro e
    apply h
    refine ⟨by omega, ?_⟩
    unfold byt
    rw [e]
    rfl
theorem qlen_some (s : ByteArray) (h : 0 < s.size) (h2 : byt s 0 = 34) : qlen s.data.toList = plusOne (qscan false (s.data.toList.drop 1)) := by
  rw [cons_of (by omega)]
  have e : s.data.toList.getD 0 0 = 34 := UInt8.toNat_inj.1 (by unfold byt at h2; show _ = 34; omega)
  rw [e, qlen_cons, if_pos rfl]
  rfl
theorem drop_cons (T : List UInt8) (k : Nat) (h : k < T.length) : T.drop k = T.getD k 0 :: T.drop (k + 1) := by
  rw [List.drop_eq_getElem_cons h, List.getD_eq_getElem?_getD, List.getElem?_eq_getElem h]
  rfl
theorem scan_field (e : Bool) (c : UInt8) (l : List UInt8) (h : fieldB c = false) : qscan e (c :: l) = none := by rw [qscan, if_pos h]
theorem scan_esc (c : UInt8) (l : List UInt8) (h : fieldB c = true) : qscan true (c :: l) = (qscan false l).map (· + 1) := by rw [qscan, if_neg (by simp [h]), if_pos rfl]
theorem scan_back (c : UInt8) (l : List UInt8) (h : c = 92) : qscan false (c :: l) = (qscan true l).map (· + 1) := by subst h; rw [qscan, if_neg (by decide), if_neg (by simp), if_pos rfl]
theorem scan_end (c : UInt8) (l : List UInt8) (h : c = 34) : qscan false (c :: l) = some 1 := by subst h; rw [qscan, if_neg (by decide), if_neg (by simp), if_neg (by decide), if_pos rfl]
theorem scan_on (c : UInt8) (l : List UInt8) (h : fieldB c = true) (h1 : c ≠ 92) (h2 : c ≠ 34) : qscan false (c :: l) = (qscan false l).map (· + 1) := by rw [qscan, if_neg (by simp [h]), if_neg (by simp), if_neg h1, if_neg h2]
theorem map_shift (o : Option Nat) (k : Nat) : ((o.map (· + 1)).map (· + k)) = o.map (· + (k + 1)) := by
  cases o with
  | none => rfl
  | some x => simp; omega
set_option maxRecDepth 100000 in
set_option maxHeartbeats 1000000 in
theorem quotedLength_any (s : ByteArray) (hs : s.size ≤ maxLen) (w : World) :
    Calls Tryz.prog 196 #[.string s] w fun e w' => e = .returned (.int .i64 (qlen s.data.toList)) ∧ Below w.heap.size w w' := by
  unfold maxLen at hs
  by_cases hp : 0 < s.size ∧ byt s 0 = 34
  · have hcv := fun (s : ByteArray) w => Lib.run_convert_string_bytes (P := Tryz.prog) w 9 53 5 s Tryz.underlying9 Tryz.underlying53 Tryz.underlying5
    have HP : Hid (decide (0 < s.size ∧ byt s 0 = 34) = true) := decide_eq_true hp
    have HQ : Hid (qlen s.data.toList = plusOne (qscan false (s.data.toList.drop 1))) := qlen_some s hp.1 hp.2
    obtain ⟨hp1, hp2⟩ := hp
    have HP2 : Hid (byt s 0 = 34) := hp2
    clear hp2
    go_enter Tryz.func196, Tryz.ntmps196
    go_wp2_with fail
    go_step3
    go_wp2_with fail
    refine (Tryz.strings_HasPrefix s ⟨#[34]⟩ _).mono ?_
    rintro e w1 ⟨rfl, rfl⟩
    rw [prefix_quote, HP.out]
    go_wp2
    go_step3
    go_wp2
    have hb := below_bytes w1 5 (s.extract 1 s.size)
    have hc := bytes_cell w1 5 (s.extract 1 s.size)
    have hrs : (s.extract 1 s.size).size = s.size - 1 := by simp
    rw [hrs] at hc
    have HT : Hid ((s.extract 1 s.size).data.toList = s.data.toList.drop 1) := tail_list s
    have HTL : Hid ((s.data.toList.drop 1).length = s.size - 1) := (by simp : (s.data.toList.drop 1).length = s.size - 1)
    have HBE : Hid (∀ k, byt (s.extract 1 s.size) k = (((s.data.toList.drop 1).getD k 0).toNat : Int)) := by
      intro k
      unfold byt
      rw [HT.out]
    clear hrs hcv
    go_loop [3, 13] (fun ev i => ∃ (k : Nat) (esc : Bool), k ≤ s.size - 1 ∧ i = .int .i64 k ∧ ev = .bool esc ∧ Hid (qscan false (s.data.toList.drop 1) = (qscan esc ((s.data.toList.drop 1).drop k)).map (· + k))) (fun _ i => s.size - (intOf i).toNat)
    case atStart => exact ⟨0, false, Nat.zero_le _, rfl, rfl, (by simp : qscan false (s.data.toList.drop 1) = (qscan false ((s.data.toList.drop 1).drop 0)).map (· + 0))⟩
    case round =>
      obtain ⟨k, esc, hk, rfl, rfl, hst⟩ := hrel
      by_cases hlt : k < s.size - 1
      · have hck := hc k hlt
        clear hc
        have HD : Hid ((s.data.toList.drop 1).drop k = (s.data.toList.drop 1).getD k 0 :: (s.data.toList.drop 1).drop (k + 1)) := drop_cons _ k (by rw [HTL.out]; exact hlt)
        have HC : Hid (byt (s.extract 1 s.size) k = (((s.data.toList.drop 1).getD k 0).toNat : Int)) := HBE.out k
        generalize (s.data.toList.drop 1).getD k 0 = u at HD HC
        obtain ⟨b0, b1⟩ := byt_bd (s.extract 1 s.size) k
        generalize byt (s.extract 1 s.size) k = c at *
        have HF : Hid (fieldB u = fieldI c) := (by unfold fieldB; rw [HC.out] : fieldB u = fieldI c)
        cases hf : fieldI c with
        | false =>
          have HQ0 : Hid (qlen s.data.toList = 0) := by
            show qlen _ = 0
            rw [HQ.out, hst.out, HD.out, scan_field _ _ _ (by rw [HF.out]; exact hf)]
            rfl
          go_wp2_with (go_at_call 108; refine (isFieldByte_any _ b0 b1 _).mono ?_; rintro e w' ⟨rfl, rfl⟩)
          try rw [Exit.noGoto_ret]
          go_ret
          exact ⟨ret_int (by rw [HQ0.out]; rfl), hb⟩
        | true =>
          cases esc with
          | true =>
            have HN : Hid (qscan false (s.data.toList.drop 1) = (qscan false ((s.data.toList.drop 1).drop (k + 1))).map (· + (k + 1))) := by
              show qscan _ _ = _
              rw [hst.out, HD.out, scan_esc _ _ (by rw [HF.out]; exact hf), map_shift]
            go_wp2_with (go_at_call 108; refine (isFieldByte_any _ b0 b1 _).mono ?_; rintro e w' ⟨rfl, rfl⟩)
            go_round
            case rel => exact ⟨k + 1, false, by omega, by go_num, rfl, HN⟩
            case measure => simp [intOf]; omega
          | false =>
            by_cases h92 : c = 92
            · have HN : Hid (qscan false (s.data.toList.drop 1) = (qscan true ((s.data.toList.drop 1).drop (k + 1))).map (· + (k + 1))) := by
                show qscan _ _ = _
                rw [hst.out, HD.out, scan_back _ _ (UInt8.toNat_inj.1 (by have := HC.out; show u.toNat = 92; omega)), map_shift]
              have h92' : (c == 92) = true := by simp [h92]
              clear h92
              go_wp2_with (go_at_call 108; refine (isFieldByte_any _ b0 b1 _).mono ?_; rintro e w' ⟨rfl, rfl⟩)
              go_round
              case rel => exact ⟨k + 1, true, by omega, by go_num, rfl, HN⟩
              case measure => simp [intOf]; omega
            · have h92' : (c == 92) = false := by simp [h92]
              by_cases h34 : c = 34
              · have HQ2 : Hid (qlen s.data.toList = k + 2) := by
                  show qlen _ = _
                  rw [HQ.out, hst.out, HD.out, scan_end _ _ (UInt8.toNat_inj.1 (by have := HC.out; show u.toNat = 34; omega))]
                  show 1 + k + 1 = k + 2
                  omega
                have h34' : (c == 34) = true := by simp [h34]
                clear h34 h92
                go_wp2_with (go_at_call 108; refine (isFieldByte_any _ b0 b1 _).mono ?_; rintro e w' ⟨rfl, rfl⟩)
                try rw [Exit.noGoto_ret]
                go_ret
                exact ⟨ret_int (by rw [HQ2.out]; omega), hb⟩
              · have h34' : (c == 34) = false := by simp [h34]
                have HN : Hid (qscan false (s.data.toList.drop 1) = (qscan false ((s.data.toList.drop 1).drop (k + 1))).map (· + (k + 1))) := by
                  show qscan _ _ = _
                  rw [hst.out, HD.out, scan_on _ _ (by rw [HF.out]; exact hf) (by intro e; have := HC.out; rw [e] at this; exact h92 this) (by intro e; have := HC.out; rw [e] at this; exact h34 this), map_shift]
                clear h34 h92
                go_wp2_with (go_at_call 108; refine (isFieldByte_any _ b0 b1 _).mono ?_; rintro e w' ⟨rfl, rfl⟩)
                go_round
                case rel => exact ⟨k + 1, false, by omega, by go_num, rfl, HN⟩
                case measure => simp [intOf]; omega
      · have HQ0 : Hid (qlen s.data.toList = 0) := by
          show qlen _ = 0
          have h1 := hst.out
          rw [show (s.data.toList.drop 1).drop k = [] from List.drop_of_length_le (by rw [HTL.out]; omega)] at h1
          rw [HQ.out, h1]
          cases esc <;> rfl
        have hge : ¬ ((k : Int) < ((s.size - 1 : Nat) : Int)) := by omega
        go_wp2
        try rw [Exit.noGoto_ret]
        go_ret
        exact ⟨ret_int (by rw [HQ0.out]; rfl), hb⟩
  · have HP : Hid (decide (0 < s.size ∧ byt s 0 = 34) = false) := decide_eq_false hp
    have HQ : Hid (qlen s.data.toList = 0) := qlen_none s hp
    go_enter Tryz.func196, Tryz.ntmps196
    go_wp2_with fail
    go_step3
    go_wp2_with fail
    refine (Tryz.strings_HasPrefix s ⟨#[34]⟩ _).mono ?_
    rintro e w1 ⟨rfl, rfl⟩
    rw [prefix_quote, HP.out]
    go_wp2
    rw [Exit.noGoto_ret]
    go_ret
    exact ⟨ret_int (by rw [HQ.out]; rfl), Below.refl _ _⟩
end Oc
end Go.Proofs.YtdcfhnbagldilaaGreatDoor
