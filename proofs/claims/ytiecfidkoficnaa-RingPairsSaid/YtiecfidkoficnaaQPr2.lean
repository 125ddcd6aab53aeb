/-
  The queue of pairs: Pop.
-/
import Derived.Test.YtiecfidkoficnaaQPair
import Derived.BigRegion
set_option maxRecDepth 100000
set_option linter.unusedVariables false
set_option linter.unusedSimpArgs false
namespace Go.Proofs.Ytiecfidkoficnaa
open Go.RowKit
namespace Rg

theorem el_eq {α : Type} (cs : List α) (k : Nat) : (cs.drop k).take 2 = cs[k]?.toList ++ cs[k + 1]?.toList := by
  rcases Nat.lt_or_ge k cs.length with hk | hk
  · rw [List.drop_eq_getElem_cons hk, List.getElem?_eq_getElem hk]
    rcases Nat.lt_or_ge (k + 1) cs.length with hk2 | hk2
    · rw [List.drop_eq_getElem_cons hk2, List.getElem?_eq_getElem hk2]
      rfl
    · rw [List.drop_of_length_le hk2, List.getElem?_eq_none hk2]
      rfl
  · rw [List.drop_of_length_le hk, List.getElem?_eq_none hk, List.getElem?_eq_none (by omega)]
    rfl
theorem el_ne {α : Type} (cs : List α) (u v : α) {P k : Nat} (h : k ≠ P) : (((cs.set (P * 2) u).set (P * 2 + 1) v).drop (k * 2)).take 2 = (cs.drop (k * 2)).take 2 := by
  rw [el_eq, el_eq, List.getElem?_set_ne (by omega), List.getElem?_set_ne (by omega), List.getElem?_set_ne (by omega), List.getElem?_set_ne (by omega)]
theorem el_at {α : Type} (cs : List α) (u v : α) {P : Nat} (h : P * 2 + 1 < cs.length) : (((cs.set (P * 2) u).set (P * 2 + 1) v).drop (P * 2)).take 2 = [u, v] := by
  rw [el_eq, List.getElem?_set_ne (by omega), List.getElem?_set_self (by omega), List.getElem?_set_self (by rw [List.length_set]; omega)]
  rfl
theorem el_lt {α : Type} (cs : List α) (u v : α) {k : Nat} (h : (k + 1) * 2 ≤ cs.length) : ((cs ++ [u, v]).drop (k * 2)).take 2 = (cs.drop (k * 2)).take 2 := by
  rw [el_eq, el_eq, List.getElem?_append_left (by omega), List.getElem?_append_left (by omega)]
theorem el_end {α : Type} (cs : List α) (u v : α) {k : Nat} (h : k * 2 = cs.length) : ((cs ++ [u, v]).drop (k * 2)).take 2 = [u, v] := by
  rw [h, List.drop_left]
  rfl

/-- Behind a pop the others wait. -/
theorem wait_pop2 {cap head c : Nat} {cs : List Value} {u v : Value} (hh : head < cap) (hc : c + 1 ≤ cap) : (wait cap head (c + 1) 2 cs).tail = wait cap (pl cap head 1) c 2 ((cs.set (head * 2) u).set (head * 2 + 1) v) := by
  unfold wait
  rw [List.range_succ_eq_map, List.map_cons, List.tail_cons, List.map_map]
  refine List.map_congr_left fun i hi => ?_
  have hi' := List.mem_range.1 hi
  have e : pl cap (pl cap head 1) i = pl cap head (i + 1) := by rw [pl_pl cap head 1 i hh (by omega), Nat.add_comm]
  have hne : pl cap head (i + 1) ≠ head := by
    unfold pl
    split <;> omega
  simp only [Function.comp, e, Nat.succ_eq_add_one]
  exact (el_ne cs u v hne).symm
theorem wait_succ2 (cap head c : Nat) (cs : List Value) : wait cap head (c + 1) 2 cs = wait cap head c 2 cs ++ [(cs.drop (pl cap head c * 2)).take 2] := by
  unfold wait
  rw [List.range_succ, List.map_append]
  simp
theorem wait_set2 {cap head c : Nat} {cs : List Value} {u v : Value} (hh : head < cap) (hc : c < cap) (hp : pl cap head c * 2 + 1 < cs.length) : wait cap head (c + 1) 2 ((cs.set (pl cap head c * 2) u).set (pl cap head c * 2 + 1) v) = wait cap head c 2 cs ++ [[u, v]] := by
  rw [wait_succ2, el_at cs u v hp]
  congr 1
  unfold wait
  refine List.map_congr_left fun i hi => ?_
  have hi' := List.mem_range.1 hi
  refine el_ne cs u v ?_
  unfold pl
  split <;> split <;> omega
theorem wait_app2 {cap head c : Nat} {cs : List Value} {u v : Value} (hh : ∀ i, i < c → (pl cap head i + 1) * 2 ≤ cs.length) (hp : pl cap head c * 2 = cs.length) : wait cap head (c + 1) 2 (cs ++ [u, v]) = wait cap head c 2 cs ++ [[u, v]] := by
  rw [wait_succ2, el_end cs u v hp]
  congr 1
  unfold wait
  refine List.map_congr_left fun i hi => ?_
  exact el_lt cs u v (hh i (List.mem_range.1 hi))

set_option maxHeartbeats 4000000 in
theorem qAtNo_P {w : World} {p : Option Addr} {bs : List Nat} {cap : Nat} (HQ : QP w 68 2 102 p bs cap []) : Calls Try.prog 65 #[.pointer p, .int .i64 0] w fun e w' => e = .returned (.tuple #[.agg #[.int .i64 0, .string ⟨#[]⟩], .bool false]) ∧ Below w.heap.size w w' := by
  have HB0 : Hid (Below w.heap.size w (w.alloc (.cells #[.int .i64 0, .string ⟨#[]⟩] 68))) := (Below.refl _ w).alloc (Nat.le_refl _) _
  have HQ' : Hid (QP (w.alloc (.cells #[.int .i64 0, .string ⟨#[]⟩] 68)) 68 2 102 p bs cap []) := HQ.below HB0.out
  have HR0 : (w.alloc (.cells #[.int .i64 0, .string ⟨#[]⟩] 68)).heap[w.heap.size]? = some (.cells #[.int .i64 0, .string ⟨#[]⟩] 68 (0, 0)) := heap_alloc_new _ _
  clear HQ
  go_enter Try.func65, Try.ntmps65
  go_wp2_with fail
  refine (qLen_P HQ'.out).mono ?_
  rintro e w1 ⟨rfl, hb⟩
  have HB1 : Hid (Below w.heap.size w w1) := bel_trans HB0.out hb
  have hsz := HB1.out.size
  obtain ⟨j0, j1, jf⟩ := row2q ((But.of_below hb).heap HR0 (fun e => by cases e))
  have hlt : w.heap.size < w1.heap.size := (Array.getElem?_eq_some_iff.1 ((But.of_below hb).heap HR0 (fun e => by cases e))).1
  clear hb HR0
  generalize hrb : w.heap.size = rb at *
  have HRB : Hid (w.heap.size = rb) := hrb
  clear hrb
  have hne : ¬ rb = w1.heap.size := by omega
  have hne2 : ¬ w1.heap.size = rb := by omega
  go_wp2
  refine bodyPost_ret (v := .tuple #[.agg #[.int .i64 0, .string ⟨#[]⟩], .bool false]) (by simp [results, Try.results65, go_sem, *]) rfl ⟨rfl, ?_⟩
  rw [HRB.out]
  refine HB1.out.trans (But.below (bs := [rb]) (B := rb) ?_ hsz (by simp))
  repeat first | refine But.setCell ?_ (by simp) _ | refine But.alloc ?_ _
  exact But.refl _ _

set_option maxHeartbeats 4000000 in
theorem qFirstNo_P {w : World} {p : Option Addr} {bs : List Nat} {cap : Nat} (HQ : QP w 68 2 102 p bs cap []) : Calls Try.prog 53 #[.pointer p] w fun e w' => e = .returned (.tuple #[.agg #[.int .i64 0, .string ⟨#[]⟩], .bool false]) ∧ Below w.heap.size w w' := by
  have HB0 : Hid (Below w.heap.size w (w.alloc (.cells #[.int .i64 0, .string ⟨#[]⟩] 68))) := (Below.refl _ w).alloc (Nat.le_refl _) _
  have HQ' : Hid (QP (w.alloc (.cells #[.int .i64 0, .string ⟨#[]⟩] 68)) 68 2 102 p bs cap []) := HQ.below HB0.out
  have HR0 : (w.alloc (.cells #[.int .i64 0, .string ⟨#[]⟩] 68)).heap[w.heap.size]? = some (.cells #[.int .i64 0, .string ⟨#[]⟩] 68 (0, 0)) := heap_alloc_new _ _
  clear HQ
  go_enter Try.func53, Try.ntmps53
  go_wp2_with fail
  refine (qAtNo_P HQ'.out).mono ?_
  rintro e w1 ⟨rfl, hb⟩
  have HB1 : Hid (Below w.heap.size w w1) := bel_trans HB0.out hb
  have hsz := HB1.out.size
  obtain ⟨j0, j1, jf⟩ := row2q ((But.of_below hb).heap HR0 (fun e => by cases e))
  clear hb HR0
  generalize hrb : w.heap.size = rb at *
  have HRB : Hid (w.heap.size = rb) := hrb
  clear hrb
  go_wp2
  refine bodyPost_ret (v := .tuple #[.agg #[.int .i64 0, .string ⟨#[]⟩], .bool false]) (by simp [results, Try.results53, go_sem, *]) rfl ⟨rfl, ?_⟩
  rw [HRB.out]
  refine HB1.out.trans (But.below (bs := [rb]) (B := rb) ?_ hsz (by simp))
  iterate 2 refine But.setCell ?_ (by simp) _
  exact But.refl _ _

set_option maxHeartbeats 4000000 in
theorem qPopNo_P {w : World} {p : Option Addr} {bs : List Nat} {cap : Nat} (HQ : QP w 68 2 102 p bs cap []) : Calls Try.prog 30 #[.pointer p] w fun e w' => e = .returned (.tuple #[.agg #[.int .i64 0, .string ⟨#[]⟩], .int .i64 22]) ∧ Below w.heap.size w w' := by
  have HB0 : Hid (Below w.heap.size w (w.alloc (.cells #[.int .i64 0, .string ⟨#[]⟩] 68))) := (Below.refl _ w).alloc (Nat.le_refl _) _
  have HQ' : Hid (QP (w.alloc (.cells #[.int .i64 0, .string ⟨#[]⟩] 68)) 68 2 102 p bs cap []) := HQ.below HB0.out
  have HR0 : (w.alloc (.cells #[.int .i64 0, .string ⟨#[]⟩] 68)).heap[w.heap.size]? = some (.cells #[.int .i64 0, .string ⟨#[]⟩] 68 (0, 0)) := heap_alloc_new _ _
  clear HQ
  go_enter Try.func30, Try.ntmps30
  go_wp2_with fail
  refine (qFirstNo_P HQ'.out).mono ?_
  rintro e w1 ⟨rfl, hb⟩
  have HB1 : Hid (Below w.heap.size w w1) := bel_trans HB0.out hb
  have hsz := HB1.out.size
  obtain ⟨j0, j1, jf⟩ := row2q ((But.of_below hb).heap HR0 (fun e => by cases e))
  have hlt : w.heap.size < w1.heap.size := (Array.getElem?_eq_some_iff.1 ((But.of_below hb).heap HR0 (fun e => by cases e))).1
  clear hb HR0
  generalize hrb : w.heap.size = rb at *
  have HRB : Hid (w.heap.size = rb) := hrb
  clear hrb
  have hne : ¬ rb = w1.heap.size := by omega
  have hne2 : ¬ w1.heap.size = rb := by omega
  go_wp2
  refine bodyPost_ret (v := .tuple #[.agg #[.int .i64 0, .string ⟨#[]⟩], .int .i64 22]) (by simp [results, Try.results30, go_sem, *]) rfl ⟨rfl, ?_⟩
  rw [HRB.out]
  refine HB1.out.trans (But.below (bs := [rb]) (B := rb) ?_ hsz (by simp))
  repeat first | refine But.setCell ?_ (by simp) _ | refine But.alloc ?_ _
  exact But.refl _ _

end Rg
end Go.Proofs.Ytiecfidkoficnaa
