/- Several texts as one. -/
import Derived.Test.YtlnlhhobmgiceaaGreatDoorErD
import Derived.Below
import Derived.Laws.Rows
import Derived.BigQuiet
import Derived.Test.YtlnlhhobmgiceaaGreatDoorMgE
import Derived.Deep.QuietTactic
import Derived.Deep.RegionLaw
import Derived.Deep.DrawnRows
import Derived.Test.YtlnlhhobmgiceaaGreatDoorMgM
/-
  sheet.told: the place and the number of what is wrong.
-/
set_option linter.unusedVariables false
set_option linter.unusedSimpArgs false
namespace Go.Proofs.YtlnlhhobmgiceaaGreatDoor
open Go.RowKit Go.Extern.Stop Go.Stop Go.Extern
namespace Er

/-- errors' own variable stands as it was laid. -/
def Gw (w : World) : Prop := w.cell? ⟨0, 0, none⟩ = some (.iface 170 (.agg #[.pointer (some ⟨5, 73, none⟩)]))
theorem Gw.pos {w : World} (h : Gw w) : 0 < w.heap.size := World.block_lt_of_cell? w ⟨0, 0, none⟩ h
theorem Gw.below {w w' : World} (h : Gw w) (b : Below w.heap.size w w') : Gw w' := (b.cell h.pos).trans h
theorem told_nil (w : World) : Calls Tryz.prog 35 #[.nilIface] w fun e w' => e = .returned (.tuple #[.int .i64 0, .int .i64 0]) ∧ Below w.heap.size w w' := by
  have hb : Below w.heap.size w ((w.alloc (.cells #[.int .i64 0, .nilIface] 120)).alloc (.cells #[.int .i64 0] 35)) := ((Below.refl _ w).alloc (Nat.le_refl _) _).alloc (by simp) _
  have HB : RowKit.Hid (Below w.heap.size w ((w.alloc (.cells #[.int .i64 0, .nilIface] 120)).alloc (.cells #[.int .i64 0] 35))) := hb
  clear hb
  go_enter Tryz.func35, Tryz.ntmps35
  go_wp2_with (go_at_call 70; refine (as_nil _ _).mono ?_; rintro e w' ⟨rfl, rfl⟩)
  go_ret2
  exact ⟨rfl, HB.out⟩

/-- Blocks laid behind, then two cells of a block written. -/
theorem keep4 {w : World} {a b c d : Obj} {k : Nat} (h : k < w.heap.size) : ((((w.alloc a).alloc b).alloc c).alloc d).heap[k]? = w.heap[k]? := by
  rw [Lib.alloc_old _ _ k (by simp; omega), Lib.alloc_old _ _ k (by simp; omega), Lib.alloc_old _ _ k (by simp; omega), Lib.alloc_old _ _ k h]
theorem bel4 (w : World) (a b c d : Obj) : Below w.heap.size w ((((w.alloc a).alloc b).alloc c).alloc d) :=
  ((((Below.refl _ w).alloc (Nat.le_refl _) a).alloc (by simp) b).alloc (by simp; omega) c).alloc (by simp; omega) d
theorem as_fault2 (x : Int) (y : Value) (T : Nat) (old1 old2 : Value) (w : World) (hg : Gw w) (hy : y.oneCell' = true) (h0 : 0 < T) (ht : w.heap[T]? = some (.cells #[old1, old2] 120 (0, 0))) :
    Calls Tryz.prog 70 #[.iface 120 (.agg #[.int .i64 x, y]), .iface 124 (.pointer (some ⟨T, 0, none⟩))] w fun ev w' => ev = .returned (.bool true) ∧ w'.heap[T]? = some (.cells #[.int .i64 x, y] 120 (0, 0)) ∧ (∀ k, k < w.heap.size → k ≠ T → w'.heap[k]? = w.heap[k]?) ∧ (∀ B, B ≤ T → Below B w w') := by
  refine (as_fault x y T old1 old2 w hg hy ht).mono ?_
  rintro e w' ⟨rfl, rfl⟩
  have hT : T < w.heap.size := (Array.getElem?_eq_some_iff.1 ht).1
  refine ⟨rfl, ?_, fun k hk hne => ?_, fun B hB => ?_⟩
  · exact Go.heap_setCell_same _ T 1 _ _ y (Go.heap_setCell_same _ T 0 _ _ (.int .i64 x) ((keep4 hT).trans ht))
  · rw [Below.heap_setCell _ _ _ _ hne, Below.heap_setCell _ _ _ _ hne, keep4 hk]
  · exact (((bel4 w _ _ _ _).mono (by omega)).setCell (p := ⟨T, 0, none⟩) hB _).setCell (p := ⟨T, 1, none⟩) hB _

theorem as_errno2 (x n : Int) (T : Nat) (old : Value) (w : World) (hg : Gw w) (ht : w.heap[T]? = some (.cells #[old] 35 (0, 0))) :
    Calls Tryz.prog 70 #[.iface 120 (.agg #[.int .i64 x, .iface 35 (.int .i64 n)]), .iface 125 (.pointer (some ⟨T, 0, none⟩))] w fun ev w' => ev = .returned (.bool true) ∧ w'.heap[T]? = some (.cells #[.int .i64 n] 35 (0, 0)) ∧ (∀ k, k < w.heap.size → k ≠ T → w'.heap[k]? = w.heap[k]?) ∧ (∀ B, B ≤ T → Below B w w') := by
  refine (as_errno x n T old w hg ht).mono ?_
  rintro e w' ⟨rfl, rfl⟩
  have hT : T < w.heap.size := (Array.getElem?_eq_some_iff.1 ht).1
  refine ⟨rfl, ?_, fun k hk hne => ?_, fun B hB => ?_⟩
  · exact Go.heap_setCell_same _ T 0 _ _ (.int .i64 n) ((Lib.alloc_old _ _ T (by simp; omega)).trans ((keep4 hT).trans ht))
  · rw [Below.heap_setCell _ _ _ _ hne, Lib.alloc_old _ _ k (by simp; omega), keep4 hk]
  · exact (((bel4 w _ _ _ _).alloc (by simp; omega) _).mono (by omega)).setCell (p := ⟨T, 0, none⟩) hB _

set_option maxRecDepth 100000 in
theorem told_fault (x n : Int) (w : World) (hg : Gw w) : Calls Tryz.prog 35 #[.iface 120 (.agg #[.int .i64 x, .iface 35 (.int .i64 n)])] w fun e w' => e = .returned (.tuple #[.int .i64 x, .int .i64 n]) ∧ Below w.heap.size w w' := by
  have h0 := hg.pos
  obtain ⟨w2, hw2⟩ : ∃ w2, w2 = (w.alloc (.cells #[.int .i64 0, .nilIface] 120)).alloc (.cells #[.int .i64 0] 35) := ⟨_, rfl⟩
  have hb2 : Below w.heap.size w w2 := by rw [hw2]; exact ((Below.refl _ w).alloc (Nat.le_refl _) _).alloc (by simp) _
  have r2 : w2.heap[w.heap.size]? = some (.cells #[.int .i64 0, .nilIface] 120 (0, 0)) := by
    rw [hw2, Lib.alloc_old _ _ _ (by simp)]; exact heap_alloc_new w _
  have q2 : w2.heap[w.heap.size + 1]? = some (.cells #[.int .i64 0] 35 (0, 0)) := by
    rw [hw2]; have h := heap_alloc_new (w.alloc (.cells #[.int .i64 0, .nilIface] 120)) (.cells #[.int .i64 0] 35); simpa using h
  have hz2 : w.heap.size + 1 < w2.heap.size := (Array.getElem?_eq_some_iff.1 q2).1
  have HB2 : RowKit.Hid (Below w.heap.size w w2) := hb2
  have HG2 : RowKit.Hid (Gw w2) := hg.below hb2
  have HR2 : RowKit.Hid (w2.heap[w.heap.size]? = some (.cells #[.int .i64 0, .nilIface] 120 (0, 0)) ∧ w2.heap[w.heap.size + 1]? = some (.cells #[.int .i64 0] 35 (0, 0))) := ⟨r2, q2⟩
  clear hb2 r2 q2
  go_enter Tryz.func35, Tryz.ntmps35
  go_wp2_with fail
  rw [← hw2]
  clear hw2
  refine (as_fault2 x _ w.heap.size _ _ w2 HG2.out rfl h0 HR2.out.1).mono ?_
  rintro e w3 ⟨rfl, r3, k3, b3⟩
  have HB3 : RowKit.Hid (Below w.heap.size w w3) := HB2.out.trans (b3 _ (Nat.le_refl _))
  have HG3 : RowKit.Hid (Gw w3) := hg.below HB3.out
  have q3 := (k3 _ hz2 (by omega)).trans HR2.out.2
  have HR3 : RowKit.Hid (w3.heap[w.heap.size]? = some (.cells #[.int .i64 x, .iface 35 (.int .i64 n)] 120 (0, 0)) ∧ w3.heap[w.heap.size + 1]? = some (.cells #[.int .i64 0] 35 (0, 0))) := ⟨r3, q3⟩
  have hz3 : w.heap.size + 1 < w3.heap.size := (Array.getElem?_eq_some_iff.1 q3).1
  clear r3 k3 b3 q3 HR2 HG2 HB2
  go_wp2_with fail
  refine (as_errno2 x n (w.heap.size + 1) _ w3 HG3.out HR3.out.2).mono ?_
  rintro e w4 ⟨rfl, r4, k4, b4⟩
  have HB4 : RowKit.Hid (Below w.heap.size w w4) := HB3.out.trans (b4 _ (by omega))
  have q4 := (k4 _ (by omega) (by omega)).trans HR3.out.1
  have c0 : w4.cell? ⟨w.heap.size, 0, none⟩ = some (.int .i64 x) := by rw [Lib.cell_of_heap q4]; rfl
  have c1 : w4.cell? ⟨w.heap.size + 1, 0, none⟩ = some (.int .i64 n) := by rw [Lib.cell_of_heap r4]; rfl
  clear r4 k4 b4 q4 HR3 HG3 HB3
  go_wp2_with fail
  go_quiet (fail)
  go_wp2
  go_ret2
  exact ⟨rfl, HB4.out.trans ⟨rfl, rfl, rfl, Nat.le_refl _, fun _ _ => rfl⟩⟩

end Er
end Go.Proofs.YtlnlhhobmgiceaaGreatDoor

/-
  The document's small functions: in, IsUnreserved, isSub, triple, says.
-/
set_option linter.unusedVariables false
set_option linter.unusedSimpArgs false
namespace Go.Proofs.YtlnlhhobmgiceaaGreatDoor
open Go.RowKit Go.Shelf
namespace Tg
open Oc

theorem contains_of {c : UInt8} {s : ByteArray} {k : Nat} (hk : k < s.size) (h : byt s k = (c.toNat : Int)) : s.data.toList.contains c = true := by
  have : s.data.toList.getD k 0 = c := UInt8.toNat_inj.1 (by unfold byt at h; omega)
  rw [List.contains_iff_mem, ← this, List.getD_eq_getElem?_getD, List.getElem?_eq_getElem (by rw [size_list]; exact hk)]
  exact List.getElem_mem _
theorem contains_not {c : UInt8} {s : ByteArray} (h : ∀ k, k < s.size → byt s k ≠ (c.toNat : Int)) : s.data.toList.contains c = false := by
  cases hh : s.data.toList.contains c with
  | false => rfl
  | true =>
    rw [List.contains_iff_mem] at hh
    obtain ⟨k, hk, e⟩ := List.mem_iff_getElem.1 hh
    exfalso
    refine h k (by rw [← size_list]; exact hk) ?_
    unfold byt
    rw [List.getD_eq_getElem?_getD, List.getElem?_eq_getElem hk]
    simp [e]

theorem unr_eq (c : UInt8) : unr c = (lettI (c.toNat : Int) || digI (c.toNat : Int) || (⟨#[45, 46, 95, 126]⟩ : ByteArray).data.toList.contains c) := rfl

/-- A triple at a place. -/
theorem getD_of (s : ByteArray) (k : Nat) (h : k < s.size) : s.data.toList.getD k 0 = s[k] := at_lt s k h
theorem drop3 (s : ByteArray) (k : Nat) (h : k + 2 < s.size) : s.data.toList.drop k = s.data.toList.getD k 0 :: s.data.toList.getD (k + 1) 0 :: s.data.toList.getD (k + 2) 0 :: s.data.toList.drop (k + 3) := by
  rw [drop_cons s k (by omega), drop_cons s (k + 1) (by omega), drop_cons s (k + 2) (by omega)]
theorem trip_at (s : ByteArray) (k : Nat) (h : k + 2 < s.size) : trip (s.data.toList.drop k) = (s.data.toList.getD k 0 == 37 && (hx (s.data.toList.getD (k + 1) 0) && hx (s.data.toList.getD (k + 2) 0))) := by
  rw [drop3 s k h]; rfl
theorem trip_short (s : ByteArray) (k : Nat) (h : ¬ k + 2 < s.size) : trip (s.data.toList.drop k) = false := by
  cases hh : trip (s.data.toList.drop k) with
  | false => rfl
  | true => have := trip_len hh; rw [List.length_drop, size_list] at this; omega
theorem nxt3 (s : ByteArray) (k : Nat) (h : trip (s.data.toList.drop k) = true) : ∃ x : Sg, sg k (s.data.toList.drop k) = x :: sg (k + 3) (s.data.toList.drop (k + 3)) ∧ x.at_ = k ∧ x.z = [37, s.data.toList.getD (k + 1) 0, s.data.toList.getD (k + 2) 0] ∧ k + 2 < s.size := by
  have hl := trip_len h
  rw [List.length_drop, size_list] at hl
  refine ⟨_, by rw [sg_trip k _ h, List.drop_drop], rfl, ?_, by omega⟩
  dsimp only
  have h2 := trip_at s k (by omega)
  rw [h] at h2
  rw [drop3 s k (by omega)]
  have : s.data.toList.getD k 0 = 37 := by
    have := h2.symm
    simp only [Bool.and_eq_true, beq_iff_eq] at this
    exact this.1
  rw [this]
  rfl
theorem nxt1 (s : ByteArray) (k : Nat) (hk : k < s.size) (h : trip (s.data.toList.drop k) = false) : ∃ x : Sg, sg k (s.data.toList.drop k) = x :: sg (k + 1) (s.data.toList.drop (k + 1)) ∧ x.at_ = k ∧ x.z = [s.data.toList.getD k 0] := by
  rw [drop_cons s k hk] at h ⊢
  exact ⟨_, sg_one k _ _ h, rfl, rfl⟩

set_option maxRecDepth 100000 in
set_option maxHeartbeats 300000 in
theorem triple_any (s : ByteArray) (hs : s.size ≤ 140737488355328) (k : Nat) (hk : k ≤ s.size) (w : World) :
    Calls Tryz.prog 36 #[.string s, .int .i64 (k : Int)] w fun e w' => e = .returned (.bool (trip (s.data.toList.drop k))) ∧ w' = w := by
  by_cases h : k + 2 < s.size
  · have HT : Hid (_) := trip_at s k h
    have h0 : ((s[k].toNat : Nat) : Int) = ((s.data.toList.getD k 0).toNat : Int) := by rw [getD_of s k (by omega)]
    have h1 : ((s[k + 1].toNat : Nat) : Int) = ((s.data.toList.getD (k + 1) 0).toNat : Int) := by rw [getD_of s (k + 1) (by omega)]
    have h2 : ((s[k + 2].toNat : Nat) : Int) = ((s.data.toList.getD (k + 2) 0).toNat : Int) := by rw [getD_of s (k + 2) (by omega)]
    generalize s.data.toList.getD k 0 = c0 at *
    generalize s.data.toList.getD (k + 1) 0 = c1 at *
    generalize s.data.toList.getD (k + 2) 0 = c2 at *
    generalize trip (s.data.toList.drop k) = T at *
    have g1 := c1.toNat_lt
    have g2 := c2.toNat_lt
    have HA : Hid (∀ w, Calls Tryz.prog 71 #[.int .u8 (c1.toNat : Int)] w fun e w' => e = .returned (.bool (hx c1)) ∧ w' = w) := fun w => IsHex_any (c1.toNat : Int) (by omega) (by omega) w
    have HB : Hid (∀ w, Calls Tryz.prog 71 #[.int .u8 (c2.toNat : Int)] w fun e w' => e = .returned (.bool (hx c2)) ∧ w' = w) := fun w => IsHex_any (c2.toNat : Int) (by omega) (by omega) w
    generalize hx c1 = a at *
    generalize hx c2 = b at *
    by_cases hp : c0 = 37
    · have hp2 : ((c0.toNat : Int) == 37) = true := by rw [hp]; rfl
      have HT2 : Hid (T = (a && b)) := by
        have := HT.out
        rw [hp] at this
        exact this
      clear hp HT
      cases a with
      | false =>
        go_enter Tryz.func36, Tryz.ntmps36
        go_wp2_with (go_at_call 71; refine (HA.out _).mono ?_; rintro e w1 ⟨rfl, rfl⟩)
        go_ret
        exact ⟨ret_bool (by rw [HT2.out]; rfl), rfl⟩
      | true =>
        go_enter Tryz.func36, Tryz.ntmps36
        go_wp2_with fail
        refine (HA.out _).mono ?_
        rintro e w1 ⟨rfl, rfl⟩
        go_wp2_with fail
        refine (HB.out _).mono ?_
        rintro e w1 ⟨rfl, rfl⟩
        go_wp2
        go_ret
        exact ⟨ret_bool (by rw [HT2.out]; rfl), rfl⟩
    · have hp2 : ((c0.toNat : Int) == 37) = false := by
        rw [beq_eq_false_iff_ne]
        intro e
        exact hp (UInt8.toNat_inj.1 (by show _ = 37; omega))
      have HT2 : Hid (T = false) := by
        have := HT.out
        rw [show (c0 == 37) = false from by rw [beq_eq_false_iff_ne]; exact hp, Bool.false_and] at this
        exact this
      clear hp HT
      go_enter Tryz.func36, Tryz.ntmps36
      go_wp2
      go_ret
      exact ⟨ret_bool HT2.out.symm, rfl⟩
  · have HT : Hid (_) := trip_short s k h
    generalize trip (s.data.toList.drop k) = T at *
    have hl : ¬ (k : Int) + 2 < (s.size : Int) := by omega
    go_enter Tryz.func36, Tryz.ntmps36
    go_wp2
    go_ret
    exact ⟨ret_bool HT.out.symm, rfl⟩

set_option maxRecDepth 100000 in
set_option maxHeartbeats 300000 in
theorem says_any (s : ByteArray) (hs : s.size ≤ 140737488355328) (k : Nat) (h : k + 2 < s.size) (ht : trip (s.data.toList.drop k) = true) (w : World) :
    Calls Tryz.prog 37 #[.string s, .int .i64 (k : Int)] w fun e w' => e = .returned (.int .u8 ((byteOf (s.data.toList.getD (k + 1) 0) (s.data.toList.getD (k + 2) 0)).toNat : Int)) ∧ w' = w := by
  have h2 := trip_at s k h
  rw [ht] at h2
  have hh : (hx (s.data.toList.getD (k + 1) 0) && hx (s.data.toList.getD (k + 2) 0)) = true := by
    have := h2.symm
    rw [Bool.and_eq_true] at this
    exact this.2
  have he : s.extract (k + 1) (k + 3) = ⟨#[s.data.toList.getD (k + 1) 0, s.data.toList.getD (k + 2) 0]⟩ := eq_list (by
    rw [ext_list, drop_cons s (k + 1) (by omega), drop_cons s (k + 2) (by omega), show k + 3 - (k + 1) = 2 by omega]; rfl)
  clear h2 ht
  generalize s.data.toList.getD (k + 1) 0 = c1 at *
  generalize s.data.toList.getD (k + 2) 0 = c2 at *
  have HC : Hid (∀ w, Calls Tryz.prog 72 #[.string (s.extract (k + 1) (k + 3)), .int .i64 255] w fun e w' => e = .returned (.tuple #[.int .i64 ((byteOf c1 c2).toNat : Int), .int .i64 0]) ∧ w' = w) := fun w => by
    have := rHex_any (⟨#[c1, c2]⟩ : ByteArray) (by show 2 ≤ maxLen; unfold maxLen; decide) 255 (by omega) (by omega) w
    rw [show (⟨#[c1, c2]⟩ : ByteArray).data.toList = [c1, c2] from rfl, num_two, if_pos hh] at this
    rw [he]
    exact this
  have h1 := (byteOf c1 c2).toNat_lt
  clear hh he
  generalize (byteOf c1 c2).toNat = n at *
  have h3 : (n : Int) % 256 = n := by omega
  go_enter Tryz.func37, Tryz.ntmps37
  go_wp2_with (refine (HC.out _).mono ?_; rintro e w1 ⟨rfl, rfl⟩)
  go_ret
  exact ⟨ret_int (by simp), rfl⟩

end Tg
end Go.Proofs.YtlnlhhobmgiceaaGreatDoor

/-
  The document's Decode and Encode.
-/
set_option linter.unusedVariables false
set_option linter.unusedSimpArgs false
namespace Go.Proofs.YtlnlhhobmgiceaaGreatDoor
open Go.RowKit Go.Shelf
namespace Tg
open Oc

/-- One step of a region that draws: bytes appended. -/
theorem step_ap {ops : Array Oper} {o : Oper} {a : Act} {K : Act → World → Prop} {Q : Exit → Act → World → Prop} {E : Prop} (hgd : o.guard = none) (s x : Operand)
    (ho : o.op = .call { callee := .builtin .append, args := #[s, x], argTypes := #[78, 78] }) (B : Nat) (v : Value) (l us : List UInt8) (n : Nat) (hn : n = us.length) (W : World) (cs : Array Value) (hcs : cs.toList = Lib.byteCells us)
    (hs : a.eval s = v) (hown : Ow B v l W) (hx : a.eval x = .slice (some ⟨W.heap.size, 0, none⟩) n n) (hlen : l.length + us.length ≤ 140737488355328) (hB : B ≤ W.heap.size)
    (h : ∀ v' w', Hid (Ow B v' (l ++ us) w') → Hid (Below B W w') → K (a.put o.dst v') w') : if Region.wanted o (yielded ops a.tmps) = true then Oper.wp Tryz.prog o a (W.alloc (.cells cs 5)) K Q else E := by
  obtain ⟨i0, hi, hz0, hz1, hz2⟩ := inf5
  have hl : (Lib.byteCells us).length = us.length := cells_len us
  have hw : Region.wanted o (yielded ops a.tmps) = true := by simp [Region.wanted, hgd]
  rw [if_pos hw]
  subst hn
  obtain ⟨v', w', hrun, h1, h2, _⟩ := run_append_own (P := Tryz.prog) (w := W.alloc (.cells cs 5)) B 78 o.type 5 i0 (.int .u8 0) 1 1 Tryz.underlying78 hi hz0 hz1 hz2 rfl (by decide) v l.length (Lib.byteCells l) (World.ownsRow.alloc hown _) ⟨W.heap.size, 0, none⟩ us.length us.length (Lib.byteCells us) (by rw [hl, Nat.mul_one])
    (fun j u hj => by
      have e : (W.alloc (.cells cs 5)).heap[W.heap.size]? = some (.cells cs 5 (0, 0)) := heap_alloc_new W _
      rw [show (⟨W.heap.size, 0, none⟩ : Addr).add j = ⟨W.heap.size, j, none⟩ by simp [Addr.add]; omega, Lib.cell_of_heap e]
      rw [← Array.getElem?_toList, hcs]
      exact hj)
    (fun u hu => by
      simp [Lib.byteCells] at hu
      obtain ⟨b, _, rfl⟩ := hu
      rfl) (by unfold maxLen; omega) (by omega) (by simp; omega)
  have := h v' w' (by
    show Ow B v' (l ++ us) w'
    unfold Ow
    rw [List.length_append, cells_app]
    exact h1) (((Below.refl B W).alloc hB _).grown h2 (by simp; omega) (fun k hk => (World.ownsRow.lt hown k hk).1))
  unfold Oper.wp
  simp [execOp, ho, resolve, invoke, builtin, hs, hx, hrun, Result.andThen]
  exact this

end Tg
end Go.Proofs.YtlnlhhobmgiceaaGreatDoor

/-
  The document's cut, split, scan, IsPath, plain.
-/
set_option linter.unusedVariables false
set_option linter.unusedSimpArgs false
namespace Go.Proofs.YtlnlhhobmgiceaaGreatDoor
open Go.RowKit Go.Shelf
namespace Tg
open Oc

theorem cut_at (s : ByteArray) (b : UInt8) (k : Nat) (hk : k < s.size) (hall : ∀ j, j < k → byt s j ≠ (b.toNat : Int)) (h : byt s k = (b.toNat : Int)) :
    str (cutA b s.data.toList) = s.extract 0 k ∧ str (cutB b s.data.toList) = s.extract (k + 1) s.size ∧ has b s.data.toList = true := by
  have e0 : s.data.toList = s.data.toList.take k ++ b :: s.data.toList.drop (k + 1) := by
    have h1 : s.data.toList.getD k 0 = b := UInt8.toNat_inj.1 (by unfold byt at h; omega)
    rw [← h1, ← drop_cons s k hk, List.take_append_drop]
  have hno : b ∉ s.data.toList.take k := by
    intro hm
    obtain ⟨j, hj, e⟩ := List.mem_iff_getElem.1 hm
    rw [List.length_take, size_list] at hj
    refine hall j (by omega) ?_
    unfold byt
    rw [List.getElem_take] at e
    rw [List.getD_eq_getElem?_getD, List.getElem?_eq_getElem (by rw [size_list]; omega)]
    simp [e]
  have hA : cutA b s.data.toList = s.data.toList.take k := by
    conv => lhs; rw [e0]
    unfold cutA
    rw [List.takeWhile_append_of_pos (by intro x hx; simp; intro e; exact hno (e ▸ hx))]
    simp
  have hB : cutB b s.data.toList = s.data.toList.drop (k + 1) := by
    conv => lhs; rw [e0]
    unfold cutB
    rw [List.dropWhile_append_of_pos (by intro x hx; simp; intro e; exact hno (e ▸ hx))]
    simp
  refine ⟨eq_list ?_, eq_list ?_, ?_⟩
  · rw [str_list, hA, ext_list]; simp
  · rw [str_list, hB, ext_list, List.take_of_length_le (by rw [List.length_drop, size_list]; omega)]
  · unfold has; exact contains_of hk h
theorem cut_none (s : ByteArray) (b : UInt8) (hall : ∀ j, j < s.size → byt s j ≠ (b.toNat : Int)) : str (cutA b s.data.toList) = s ∧ cutB b s.data.toList = [] ∧ has b s.data.toList = false := by
  have h : has b s.data.toList = false := contains_not hall
  exact ⟨by rw [cutA_all b _ h, str_self], cutB_none b _ h, h⟩

set_option maxRecDepth 100000 in
set_option maxHeartbeats 1000000 in
theorem rcut_any (s : ByteArray) (hs : s.size ≤ 140737488355328) (b : UInt8) (w : World) :
    Calls Tryz.prog 39 #[.string s, .int .u8 (b.toNat : Int)] w fun e w' => e = .returned (.tuple #[.string (str (cutA b s.data.toList)), .string (str (cutB b s.data.toList)), .bool (has b s.data.toList)]) ∧ Below w.heap.size w w' := by
  go_enter Tryz.func39, Tryz.ntmps39
  go_wp2
  go_loop [7] (fun i => ∃ k : Nat, k ≤ s.size ∧ i = .int .i64 k ∧ Hid (∀ j, j < k → byt s j ≠ (b.toNat : Int))) (fun i => s.size - (intOf i).toNat)
  case atStart => exact ⟨0, Nat.zero_le _, rfl, (fun j hj => by omega : ∀ j, j < 0 → _)⟩
  case round =>
    obtain ⟨k, hk, rfl, hall⟩ := hrel
    by_cases hlt : k < s.size
    · have hby : ((s[k].toNat : Nat) : Int) = byt s k := byt_at s k hlt
      by_cases h : byt s k = (b.toNat : Int)
      · have HR : Hid (_) := cut_at s b k hlt hall.out h
        have hb : (byt s k == (b.toNat : Int)) = true := by simp [h]
        have hk1 : IntKind.i64.wrap ((k : Int) + 1) = ((k + 1 : Nat) : Int) := by rw [IntKind.wrap_i64]; omega
        clear h
        go_wp2
        go_region
        all_goals go_wp2
        all_goals go_ret3
        all_goals exact ⟨by rw [HR.out.1, HR.out.2.1, HR.out.2.2]; rfl, (Below.refl _ w).drew⟩
      · have hb : (byt s k == (b.toNat : Int)) = false := by simp [h]
        have HA : Hid (∀ j, j < k + 1 → byt s j ≠ (b.toNat : Int)) := by
          intro j hj
          by_cases hjk : j = k
          · subst hjk; exact h
          · exact hall.out j (by omega)
        clear h
        go_wp2
        go_round
        case rel => exact ⟨k + 1, by omega, by go_num, HA⟩
        case measure => simp [intOf]; omega
    · obtain rfl : k = s.size := by omega
      have HR : Hid (_) := cut_none s b hall.out
      go_wp2
      go_ret3
      exact ⟨by rw [HR.out.1, HR.out.2.1, HR.out.2.2]; rfl, Below.refl _ _⟩

set_option maxRecDepth 100000 in
set_option maxHeartbeats 2000000 in
theorem rsplit_any (s : ByteArray) (hs : s.size ≤ 4194304) (b : UInt8) (w : World) :
    Calls Tryz.prog 38 #[.string s, .int .u8 (b.toNat : Int)] w fun e w' => ∃ v, e = .returned v ∧ OwnS w.heap.size v (splitB b s.data.toList) w' ∧ Below w.heap.size w w' := by
  have HC : Hid (∀ (t : ByteArray), t.size ≤ s.size → ∀ w, _) := fun t ht w => rcut_any t (by omega) b w
  have HE : Hid (_) := ownS_empty w
  have HL := split_len b s.data.toList
  rw [size_list] at HL
  go_enter Tryz.func38, Tryz.ntmps38
  go_wp2
  go_loopw [0, 5] (fun sv lv wr => ∃ cur : List UInt8, sv = .string (str cur) ∧ ∃ pre : List (List UInt8), Hid (pre ++ splitB b cur = splitB b s.data.toList) ∧ Hid (cur.length ≤ s.size) ∧ Hid (OwnS w.heap.size lv pre wr) ∧ Hid (Below w.heap.size w wr)) (fun sv _ _ => match sv with | .string r => r.size | _ => 0)
  case atStart => exact ⟨s.data.toList, by rw [str_self], [], (rfl : [] ++ splitB b s.data.toList = _), (by rw [size_list]; exact Nat.le_refl _ : s.data.toList.length ≤ s.size), HE.out, (Below.refl _ w).alloc (Nat.le_refl _) _⟩
  case round =>
    obtain ⟨cur, rfl, pre, hpre, hcl, hown, hbl⟩ := hrel
    have hC := HC.out (str cur) (by rw [str_size]; exact hcl.out)
    rw [str_list] at hC
    have HC2 : Hid (∀ w, _) := hC
    have HSP : Hid (_) := split_cut b cur
    have hplen : pre.length + 1 ≤ s.size + 1 := by
      have h1 := congrArg List.length hpre.out
      have h4 : 0 < (splitB b cur).length := List.length_pos_iff.2 (splitB_ne b cur)
      rw [List.length_append] at h1
      omega
    have hbl2 : (cutB b cur).length ≤ cur.length := cutB_len b cur
    have hdec : has b cur = true → (cutB b cur).length < cur.length := by
      intro h
      have := congrArg List.length (cut_app b cur h)
      rw [List.length_append, List.length_cons] at this
      omega
    clear hC
    cases hh : has b cur with
    | true =>
      have HD : Hid (_) := hdec hh
      rw [hh] at HC2 HSP
      have HSP2 : Hid (splitB b cur = cutA b cur :: splitB b (cutB b cur)) := (by have := HSP.out; rw [if_pos rfl] at this; exact this : _ = _)
      clear hdec hh HSP
      generalize cutA b cur = A at *
      generalize cutB b cur = B at *
      go_wp2_with (first | (go_at_call 39; refine (HC2.out _).mono ?_; rintro e w1 ⟨rfl, k1⟩; have ho1 := hown.out.below k1; have hs1 := Nat.le_trans hbl.out.size k1.size) | (at_builtin; go_must (refine wp_appS rfl (.tmp 17) (.tmp 19) rfl w.heap.size _ pre _ A rfl ho1 rfl (by omega) hs1 ?_); intro v2 w2 o2 b2))
      go_roundw
      case rel => exact ⟨B, rfl, pre ++ [A], (by rw [List.append_assoc]; have := hpre.out; rw [HSP2.out] at this; exact this : (pre ++ [A]) ++ splitB b B = _), (Nat.le_trans (Nat.le_of_lt HD.out) hcl.out : B.length ≤ s.size), o2, hbl.out.trans ((k1.mono hbl.out.size).trans b2)⟩
      case measure => simp [str_size]; exact HD.out
    | false =>
      rw [hh] at HC2 HSP
      have HSP2 : Hid (splitB b cur = [cutA b cur]) := (by have := HSP.out; rw [if_neg (by simp)] at this; exact this : _ = _)
      clear hdec hh HSP
      generalize cutA b cur = A at *
      generalize cutB b cur = B at *
      go_wp2_with (first | (go_at_call 39; refine (HC2.out _).mono ?_; rintro e w1 ⟨rfl, k1⟩; have ho1 := hown.out.below k1; have hs1 := Nat.le_trans hbl.out.size k1.size) | (at_builtin; go_must (refine wp_appS rfl (.tmp 17) (.tmp 19) rfl w.heap.size _ pre _ A rfl ho1 rfl (by omega) hs1 ?_); intro v2 w2 o2 b2))
      go_ret
      refine ⟨_, rfl, ?_, hbl.out.trans ((k1.mono hbl.out.size).trans b2)⟩
      have := hpre.out
      rw [HSP2.out] at this
      rw [← this]
      exact o2

end Tg
end Go.Proofs.YtlnlhhobmgiceaaGreatDoor
