/- Several texts as one. -/
import Derived.Test.YtjhlflochheolaaMgF
import Derived.RangeFuncNested
import Derived.RangeFuncBound
import Derived.RangeFuncCalls
import Derived.RangeFuncLeaves
import Derived.Shelf.Abstract
import Derived.Shelf.RegionOpen
import Derived.WalkKit
import Derived.OwnWalkIn
import Derived.TacticsInMore
import Derived.LoopNIn
import Derived.LoopIn
import Derived.Maps.AppendAt
import Derived.Deep.RegionWith
/-
  The queue: All, and the function that it gives.
-/
set_option linter.unusedVariables false
set_option linter.unusedSimpArgs false
namespace Go.Proofs.Ytjhlflochheolaa
open Go.RowKit Go.Shelf
attribute [local go_sem] Oper.semAt_some
namespace Rg

/-- A block lies as it lay. -/
def Keep (b : Nat) (A B : World) : Prop := B.heap[b]? = A.heap[b]?
theorem Keep.refl (b : Nat) (A : World) : Keep b A A := rfl
theorem Keep.trans {b : Nat} {A B C : World} (h : Keep b A B) (k : Keep b B C) : Keep b A C := Eq.trans k h
theorem Keep.cell {b : Nat} {A B : World} (h : Keep b A B) (i : Nat) : B.cell? ⟨b, i, none⟩ = A.cell? ⟨b, i, none⟩ := World.cell?_of_block (w := A) (w' := B) (a := ⟨b, i, none⟩) h
theorem Keep.below {b n : Nat} {A B : World} (h : Below n A B) (hb : b < n) : Keep b A B := h.block b hb
theorem keepK_t {b : Nat} {A B C : World} (h : Keep b A B) (k : Keep b B C) : Keep b A C := h.trans k
theorem keepK_b {b : Nat} {w : World} (hb : b < w.heap.size) (W : World) (l : Nat) (o o' : Obj) (hl : w.heap.size ≤ l) (h : W.heap[l]? = some o) (hc : o.isCells = false) (hw : o.isWalk = false) : Keep b W (W.putObj l o') :=
  (belowK_b (w := w) (Nat.le_refl _) W l o o' hl h hc hw).block b hb
def upto {α : Type} (f : Nat → α) (k : Nat) : List α := (List.range k).map f
theorem upto_succ {α : Type} (f : Nat → α) (k : Nat) : upto f (k + 1) = upto f k ++ [f k] := by simp [upto, List.range_succ]
theorem flat_map {α : Type} (f : α → Value) (zs : List α) : (zs.map fun z => [f z]).flatten = zs.map fun z => f z := by
  induction zs with
  | nil => rfl
  | cons a t ih => rw [List.map_cons, List.flatten_cons, ih]; rfl
theorem upto_length {α : Type} (f : Nat → α) (k : Nat) : (upto f k).length = k := by simp [upto]

/-- The slice's cells hold zs, in a block below n₀; or there is none. -/
def Lies_I (b : Nat) (W : World) (sv : Value) (zs : List Int) : Prop :=
  (sv = .slice none 0 0 ∧ zs = []) ∨ ∃ off cap, sv = .slice (some ⟨b, off, none⟩) zs.length cap ∧ ∀ j, j < zs.length → W.cell? ⟨b, off + j, none⟩ = some (.int .i64 (zs[j]?.getD 0))
theorem Lies_I.keep {b : Nat} {A B : World} (h : Keep b A B) {sv : Value} {zs : List Int} : Lies_I b A sv zs → Lies_I b B sv zs
  | .inl e => .inl e
  | .inr ⟨off, cap, e, hc⟩ => .inr ⟨off, cap, e, fun j hj => (h.cell _).trans (hc j hj)⟩

set_option maxRecDepth 100000 in
set_option maxHeartbeats 2000000 in
theorem all1_in_I (F : Fence) (n : Nat) (h8 : F.fn 49) (hro : F.round = none) (hn : 1 ≤ n) (l Bs b off len cap : Nat) (zs : List Int) (hreach : len * 8 ≤ 140737488351232) (J Jx : List (Nat × Int) → World → Prop)
    (hY : ∀ pre x W, J pre W → pre.length < len → YieldAt F (n - 1) Try.prog l #[.int .i64 (x.1 : Int), .int .i64 (x.2)] W fun e W' =>
      (e = .returned (.bool true) ∧ J (pre ++ [x]) W' ∧ Keep b W W') ∨ (e = .returned (.bool false) ∧ Jx (pre ++ [x]) W'))
    (W : World) (hBs : W.cell? ⟨Bs, 0, none⟩ = some (.slice (some ⟨b, off, none⟩) len cap)) (hc : ∀ j, j < len → W.cell? ⟨b, off + j, none⟩ = some (.int .i64 (zs[j]?.getD 0))) (h0 : J [] W) :
    CallsIn F n Try.prog 49 #[.func (.yield l) #[] #[], .pointer (some ⟨Bs, 0, none⟩)] W fun e W' => (∃ v, e = .returned v) ∧
      ((∃ ys, ys = upto (fun j => (j, zs[j]?.getD 0)) len ∧ J ys W') ∨ (∃ pre, (∃ k, k ≤ len ∧ pre = upto (fun j => (j, zs[j]?.getD 0)) k) ∧ Jx pre W')) := by
  refine callsIn_of_wp Try.func49 rfl h8 ?_ hro
  simp only [Try.ntmps49, List.size_toArray, List.length_cons, List.length_nil, Nat.reduceAdd, Nat.reduceSub, Array.replicate_succ, Array.replicate_zero, List.push_toArray, List.append_toArray, List.nil_append, List.cons_append]
  gi_wp2
  gi_loopw [7] (fun i wr => ∃ k : Nat, k ≤ len ∧ i = .int .i64 k ∧ J (upto (fun j => (j, zs[j]?.getD 0)) k) wr ∧ Keep b W wr)
    (fun i _ => len - (intOf i).toNat)
  case atStart => exact ⟨0, Nat.zero_le _, rfl, h0, Keep.refl _ _⟩
  case round =>
    obtain ⟨k, hk, rfl, hJs, hnx⟩ := hrel
    have hcx : k < len → wr.cell? ⟨b, off + k, none⟩ = some (.int .i64 (zs[k]?.getD 0)) := fun h => (hnx.cell _).trans (hc k h)
    by_cases hlt : k < len
    · obtain ⟨fn, tmps, assign, body, hy, hR⟩ := hY _ (k, zs[k]?.getD 0) wr hJs (by rw [upto_length]; exact hlt)
      dsimp only at hy
      have hcx' := hcx hlt
      gi_wp2
      refine hR.mono ?_
      rintro e W3 (⟨rfl, hJ3, hk3⟩ | ⟨rfl, hJx3⟩)
      · gi_wp2
        go_roundw
        case rel => exact ⟨k + 1, by omega, by simp, by rw [upto_succ]; exact hJ3, hnx.trans hk3⟩
        case measure => simp [intOf]; omega
      · gi_wp2
        refine bodyPost_ret (results_none rfl _ _ _) rfl ?_
        exact ⟨⟨_, rfl⟩, .inr ⟨_, ⟨k + 1, by omega, (upto_succ _ _).symm⟩, hJx3⟩⟩
    · obtain rfl : k = len := by omega
      gi_wp2
      go_end0
      exact ⟨⟨_, rfl⟩, .inl ⟨_, rfl, hJs⟩⟩

set_option maxRecDepth 100000 in
set_option maxHeartbeats 1000000 in
theorem all1_nil_in_I (F : Fence) (n : Nat) (h8 : F.fn 49) (hro : F.round = none) (l Bs : Nat) (J : List (Nat × Int) → World → Prop) (W : World) (hBs : W.cell? ⟨Bs, 0, none⟩ = some (.slice none 0 0)) (h0 : J [] W) :
    CallsIn F n Try.prog 49 #[.func (.yield l) #[] #[], .pointer (some ⟨Bs, 0, none⟩)] W fun e W' => (∃ v, e = .returned v) ∧ J [] W' := by
  refine callsIn_of_wp Try.func49 rfl h8 ?_ hro
  simp only [Try.ntmps49, List.size_toArray, List.length_cons, List.length_nil, Nat.reduceAdd, Nat.reduceSub, Array.replicate_succ, Array.replicate_zero, List.push_toArray, List.append_toArray, List.nil_append, List.cons_append]
  gi_wp2
  gi_loopw [7] (fun i wr => i = .int .i64 0 ∧ J [] wr) (fun _ _ => 0)
  case atStart => exact ⟨rfl, h0⟩
  case round =>
    obtain ⟨rfl, hJs⟩ := hrel
    gi_wp2
    go_end0
    exact ⟨⟨_, rfl⟩, hJs⟩

theorem all_stops_I (F : Fence) (n : Nat) (h8 : F.fn 49) (hro : F.round = none) (hn : 1 ≤ n) (Bs b : Nat) (sv : Value) (zs : List Int) (hreach : zs.length * 8 ≤ 140737488351232) (w : World) (hBs : Bs < w.heap.size) (hb : b < w.heap.size)
    (hc : w.cell? ⟨Bs, 0, none⟩ = some sv) (hI : Lies_I b w sv zs) :
    SeqStopsK F n Try.prog 49 #[.pointer (some ⟨Bs, 0, none⟩)] (fun x : Nat × Int => #[Value.int .i64 (x.1 : Int), Value.int .i64 (x.2)]) (Keep b) (fun ys => ys = upto (fun j => (j, zs[j]?.getD 0)) zs.length)
      (fun pre => ∃ k, k ≤ zs.length ∧ pre = upto (fun j => (j, zs[j]?.getD 0)) k) zs.length w := fun l J Jx W hW _ _ hY h0 => by
  have hc' := (hW.cell (p := ⟨Bs, 0, none⟩) hBs).trans hc
  rcases hI.keep (Keep.below hW hb) with ⟨rfl, rfl⟩ | ⟨off, cap, rfl, hcs⟩
  · exact (all1_nil_in_I F n h8 hro l Bs J W hc' h0).mono fun e W' ⟨he, hj⟩ => ⟨he, .inl ⟨_, rfl, hj⟩⟩
  · exact all1_in_I F n h8 hro hn l Bs b off zs.length cap zs hreach J Jx hY W hc' hcs h0

set_option maxRecDepth 100000 in
set_option maxHeartbeats 2000000 in
theorem qAll_I {w : World} {p : Option Addr} {bs : List Nat} {cap : Nat} (zs : List Int) (HQ : QP w 3 1 92 p bs cap (zs.map fun z => [Value.int .i64 (z)])) : Calls Try.prog 29 #[.pointer p] w fun e w' => ∃ Bs b sv, e = .returned (.func (.func 49) #[] #[.pointer (some ⟨Bs, 0, none⟩)]) ∧ w.heap.size ≤ Bs ∧ Bs < w'.heap.size ∧ w'.cell? ⟨Bs, 0, none⟩ = some sv ∧ w.heap.size ≤ b ∧ b < w'.heap.size ∧ Lies_I b w' sv zs ∧ Below w.heap.size w w' := by
  have hfl : (zs.map fun z => [Value.int .i64 (z)]).flatten = zs.map fun z => Value.int .i64 (z) := flat_map _ zs
  have HFL : Hid (_ = _) := hfl
  have HL := qList_I HQ (by rw [hfl]; intro u hu; obtain ⟨z, _, rfl⟩ := List.mem_map.1 hu; rfl)
  clear hfl
  have HH : Hid (Calls _ _ _ _ _) := HL
  clear HL HQ
  go_enter Try.func29, Try.ntmps29
  go_wp2_with fail
  refine HH.out.mono ?_
  rintro e w1 ⟨v, rfl, ho, hb⟩
  rw [HFL.out, List.length_map] at ho
  have HO : Hid (w1.ownsRow w.heap.size 3 1 v zs.length (zs.map fun z => Value.int .i64 (z))) := ho
  obtain ⟨a, c, rfl⟩ : ∃ a c, v = .slice a zs.length c := by
    rcases ho.2 with ⟨rfl, e⟩ | ⟨g, c, _, rfl, _⟩
    · exact ⟨none, 0, by rw [e]⟩
    · exact ⟨_, c, rfl⟩
  have HB : Hid (Below w.heap.size w w1) := hb
  clear ho hb HH HFL
  generalize hzl : zs.length = N at *
  go_wp2
  go_ret
  have hrow := heap_alloc_new w1 (Obj.cells #[Value.slice a N c] 59)
  have hbel : Below w1.heap.size w1 (w1.alloc (Obj.cells #[Value.slice a N c] 59)) := ((But.refl [] w1).alloc _).to_below
  have hlt := (Array.getElem?_eq_some_iff.1 hrow).1
  have ho := HO.out
  rcases ho.2 with ⟨e, e0⟩ | ⟨g, c', cur, e, hg0, hg, _⟩
  · exact ⟨w1.heap.size, w1.heap.size, .slice a N c, rfl, HB.out.size, hlt, by rw [cell_of_row _ _ _ _ _ _ hrow]; rfl, HB.out.size, hlt, .inl ⟨e, List.eq_nil_of_length_eq_zero (by omega)⟩, bel_trans HB.out hbel⟩
  · injection e with e1 e2 e3
    subst e1
    refine ⟨w1.heap.size, g, .slice (some ⟨g, 0, none⟩) N c, rfl, HB.out.size, hlt, by rw [cell_of_row _ _ _ _ _ _ hrow]; rfl, hg0, Nat.lt_of_lt_of_le (Array.getElem?_eq_some_iff.1 hg).1 hbel.size, .inr ⟨0, c, by rw [hzl], fun j hj => ?_⟩, bel_trans HB.out hbel⟩
    rw [Nat.zero_add]
    refine (But.of_below hbel).cell ?_ (fun e => by cases e)
    rw [ho.cellAt j (by omega), List.getElem?_map, List.getElem?_eq_getElem hj]
    rfl

/-- The slice's cells hold zs, in a block below n₀; or there is none. -/
def Lies_S (b : Nat) (W : World) (sv : Value) (zs : List ByteArray) : Prop :=
  (sv = .slice none 0 0 ∧ zs = []) ∨ ∃ off cap, sv = .slice (some ⟨b, off, none⟩) zs.length cap ∧ ∀ j, j < zs.length → W.cell? ⟨b, off + j, none⟩ = some (.string (zs[j]?.getD ⟨#[]⟩))
theorem Lies_S.keep {b : Nat} {A B : World} (h : Keep b A B) {sv : Value} {zs : List ByteArray} : Lies_S b A sv zs → Lies_S b B sv zs
  | .inl e => .inl e
  | .inr ⟨off, cap, e, hc⟩ => .inr ⟨off, cap, e, fun j hj => (h.cell _).trans (hc j hj)⟩

set_option maxRecDepth 100000 in
set_option maxHeartbeats 2000000 in
theorem all1_in_S (F : Fence) (n : Nat) (h8 : F.fn 56) (hro : F.round = none) (hn : 1 ≤ n) (l Bs b off len cap : Nat) (zs : List ByteArray) (hreach : len * 16 ≤ 140737488351232) (J Jx : List (Nat × ByteArray) → World → Prop)
    (hY : ∀ pre x W, J pre W → pre.length < len → YieldAt F (n - 1) Try.prog l #[.int .i64 (x.1 : Int), .string (x.2)] W fun e W' =>
      (e = .returned (.bool true) ∧ J (pre ++ [x]) W' ∧ Keep b W W') ∨ (e = .returned (.bool false) ∧ Jx (pre ++ [x]) W'))
    (W : World) (hBs : W.cell? ⟨Bs, 0, none⟩ = some (.slice (some ⟨b, off, none⟩) len cap)) (hc : ∀ j, j < len → W.cell? ⟨b, off + j, none⟩ = some (.string (zs[j]?.getD ⟨#[]⟩))) (h0 : J [] W) :
    CallsIn F n Try.prog 56 #[.func (.yield l) #[] #[], .pointer (some ⟨Bs, 0, none⟩)] W fun e W' => (∃ v, e = .returned v) ∧
      ((∃ ys, ys = upto (fun j => (j, zs[j]?.getD ⟨#[]⟩)) len ∧ J ys W') ∨ (∃ pre, (∃ k, k ≤ len ∧ pre = upto (fun j => (j, zs[j]?.getD ⟨#[]⟩)) k) ∧ Jx pre W')) := by
  refine callsIn_of_wp Try.func56 rfl h8 ?_ hro
  simp only [Try.ntmps56, List.size_toArray, List.length_cons, List.length_nil, Nat.reduceAdd, Nat.reduceSub, Array.replicate_succ, Array.replicate_zero, List.push_toArray, List.append_toArray, List.nil_append, List.cons_append]
  gi_wp2
  gi_loopw [7] (fun i wr => ∃ k : Nat, k ≤ len ∧ i = .int .i64 k ∧ J (upto (fun j => (j, zs[j]?.getD ⟨#[]⟩)) k) wr ∧ Keep b W wr)
    (fun i _ => len - (intOf i).toNat)
  case atStart => exact ⟨0, Nat.zero_le _, rfl, h0, Keep.refl _ _⟩
  case round =>
    obtain ⟨k, hk, rfl, hJs, hnx⟩ := hrel
    have hcx : k < len → wr.cell? ⟨b, off + k, none⟩ = some (.string (zs[k]?.getD ⟨#[]⟩)) := fun h => (hnx.cell _).trans (hc k h)
    by_cases hlt : k < len
    · obtain ⟨fn, tmps, assign, body, hy, hR⟩ := hY _ (k, zs[k]?.getD ⟨#[]⟩) wr hJs (by rw [upto_length]; exact hlt)
      dsimp only at hy
      have hcx' := hcx hlt
      gi_wp2
      refine hR.mono ?_
      rintro e W3 (⟨rfl, hJ3, hk3⟩ | ⟨rfl, hJx3⟩)
      · gi_wp2
        go_roundw
        case rel => exact ⟨k + 1, by omega, by simp, by rw [upto_succ]; exact hJ3, hnx.trans hk3⟩
        case measure => simp [intOf]; omega
      · gi_wp2
        refine bodyPost_ret (results_none rfl _ _ _) rfl ?_
        exact ⟨⟨_, rfl⟩, .inr ⟨_, ⟨k + 1, by omega, (upto_succ _ _).symm⟩, hJx3⟩⟩
    · obtain rfl : k = len := by omega
      gi_wp2
      go_end0
      exact ⟨⟨_, rfl⟩, .inl ⟨_, rfl, hJs⟩⟩

set_option maxRecDepth 100000 in
set_option maxHeartbeats 1000000 in
theorem all1_nil_in_S (F : Fence) (n : Nat) (h8 : F.fn 56) (hro : F.round = none) (l Bs : Nat) (J : List (Nat × ByteArray) → World → Prop) (W : World) (hBs : W.cell? ⟨Bs, 0, none⟩ = some (.slice none 0 0)) (h0 : J [] W) :
    CallsIn F n Try.prog 56 #[.func (.yield l) #[] #[], .pointer (some ⟨Bs, 0, none⟩)] W fun e W' => (∃ v, e = .returned v) ∧ J [] W' := by
  refine callsIn_of_wp Try.func56 rfl h8 ?_ hro
  simp only [Try.ntmps56, List.size_toArray, List.length_cons, List.length_nil, Nat.reduceAdd, Nat.reduceSub, Array.replicate_succ, Array.replicate_zero, List.push_toArray, List.append_toArray, List.nil_append, List.cons_append]
  gi_wp2
  gi_loopw [7] (fun i wr => i = .int .i64 0 ∧ J [] wr) (fun _ _ => 0)
  case atStart => exact ⟨rfl, h0⟩
  case round =>
    obtain ⟨rfl, hJs⟩ := hrel
    gi_wp2
    go_end0
    exact ⟨⟨_, rfl⟩, hJs⟩

theorem all_stops_S (F : Fence) (n : Nat) (h8 : F.fn 56) (hro : F.round = none) (hn : 1 ≤ n) (Bs b : Nat) (sv : Value) (zs : List ByteArray) (hreach : zs.length * 16 ≤ 140737488351232) (w : World) (hBs : Bs < w.heap.size) (hb : b < w.heap.size)
    (hc : w.cell? ⟨Bs, 0, none⟩ = some sv) (hI : Lies_S b w sv zs) :
    SeqStopsK F n Try.prog 56 #[.pointer (some ⟨Bs, 0, none⟩)] (fun x : Nat × ByteArray => #[Value.int .i64 (x.1 : Int), Value.string (x.2)]) (Keep b) (fun ys => ys = upto (fun j => (j, zs[j]?.getD ⟨#[]⟩)) zs.length)
      (fun pre => ∃ k, k ≤ zs.length ∧ pre = upto (fun j => (j, zs[j]?.getD ⟨#[]⟩)) k) zs.length w := fun l J Jx W hW _ _ hY h0 => by
  have hc' := (hW.cell (p := ⟨Bs, 0, none⟩) hBs).trans hc
  rcases hI.keep (Keep.below hW hb) with ⟨rfl, rfl⟩ | ⟨off, cap, rfl, hcs⟩
  · exact (all1_nil_in_S F n h8 hro l Bs J W hc' h0).mono fun e W' ⟨he, hj⟩ => ⟨he, .inl ⟨_, rfl, hj⟩⟩
  · exact all1_in_S F n h8 hro hn l Bs b off zs.length cap zs hreach J Jx hY W hc' hcs h0

set_option maxRecDepth 100000 in
set_option maxHeartbeats 2000000 in
theorem qAll_S {w : World} {p : Option Addr} {bs : List Nat} {cap : Nat} (zs : List ByteArray) (HQ : QP w 9 1 87 p bs cap (zs.map fun z => [Value.string (z)])) : Calls Try.prog 45 #[.pointer p] w fun e w' => ∃ Bs b sv, e = .returned (.func (.func 56) #[] #[.pointer (some ⟨Bs, 0, none⟩)]) ∧ w.heap.size ≤ Bs ∧ Bs < w'.heap.size ∧ w'.cell? ⟨Bs, 0, none⟩ = some sv ∧ w.heap.size ≤ b ∧ b < w'.heap.size ∧ Lies_S b w' sv zs ∧ Below w.heap.size w w' := by
  have hfl : (zs.map fun z => [Value.string (z)]).flatten = zs.map fun z => Value.string (z) := flat_map _ zs
  have HFL : Hid (_ = _) := hfl
  have HL := qList_S HQ (by rw [hfl]; intro u hu; obtain ⟨z, _, rfl⟩ := List.mem_map.1 hu; rfl)
  clear hfl
  have HH : Hid (Calls _ _ _ _ _) := HL
  clear HL HQ
  go_enter Try.func45, Try.ntmps45
  go_wp2_with fail
  refine HH.out.mono ?_
  rintro e w1 ⟨v, rfl, ho, hb⟩
  rw [HFL.out, List.length_map] at ho
  have HO : Hid (w1.ownsRow w.heap.size 9 1 v zs.length (zs.map fun z => Value.string (z))) := ho
  obtain ⟨a, c, rfl⟩ : ∃ a c, v = .slice a zs.length c := by
    rcases ho.2 with ⟨rfl, e⟩ | ⟨g, c, _, rfl, _⟩
    · exact ⟨none, 0, by rw [e]⟩
    · exact ⟨_, c, rfl⟩
  have HB : Hid (Below w.heap.size w w1) := hb
  clear ho hb HH HFL
  generalize hzl : zs.length = N at *
  go_wp2
  go_ret
  have hrow := heap_alloc_new w1 (Obj.cells #[Value.slice a N c] 50)
  have hbel : Below w1.heap.size w1 (w1.alloc (Obj.cells #[Value.slice a N c] 50)) := ((But.refl [] w1).alloc _).to_below
  have hlt := (Array.getElem?_eq_some_iff.1 hrow).1
  have ho := HO.out
  rcases ho.2 with ⟨e, e0⟩ | ⟨g, c', cur, e, hg0, hg, _⟩
  · exact ⟨w1.heap.size, w1.heap.size, .slice a N c, rfl, HB.out.size, hlt, by rw [cell_of_row _ _ _ _ _ _ hrow]; rfl, HB.out.size, hlt, .inl ⟨e, List.eq_nil_of_length_eq_zero (by omega)⟩, bel_trans HB.out hbel⟩
  · injection e with e1 e2 e3
    subst e1
    refine ⟨w1.heap.size, g, .slice (some ⟨g, 0, none⟩) N c, rfl, HB.out.size, hlt, by rw [cell_of_row _ _ _ _ _ _ hrow]; rfl, hg0, Nat.lt_of_lt_of_le (Array.getElem?_eq_some_iff.1 hg).1 hbel.size, .inr ⟨0, c, by rw [hzl], fun j hj => ?_⟩, bel_trans HB.out hbel⟩
    rw [Nat.zero_add]
    refine (But.of_below hbel).cell ?_ (fun e => by cases e)
    rw [ho.cellAt j (by omega), List.getElem?_map, List.getElem?_eq_getElem hj]
    rfl

end Rg
end Go.Proofs.Ytjhlflochheolaa

/-
  The law's own 'gone': what All gives, all of it.
-/
set_option linter.unusedVariables false
set_option linter.unusedSimpArgs false
namespace Go.Proofs.Ytjhlflochheolaa
open Go.RowKit Go.Shelf
attribute [local go_sem] Oper.semAt_some
namespace Rg

theorem own_mono {w : World} {b b' : Nat} {e : TypeId} {v : Value} {n : Nat} {xs : List Value} (h : w.ownsRow b e 1 v n xs) (hb : b' ≤ b) : w.ownsRow b' e 1 v n xs :=
  ⟨h.1, h.2.imp id fun ⟨g, c, cur, e, hg, r⟩ => ⟨g, c, cur, e, Nat.le_trans hb hg, r⟩⟩
theorem coll {W w1 : World} {n₀ N B : Nat} {t e : TypeId} {v v' : Value} {k m : Nat} {xs ys : List Value} {tmp : Obj}
    (hv : Boxed W B t v) (hte : t ≠ e) (hrow : W.ownsRow N e 1 v k xs) (hn : n₀ ≤ N) (hN : N ≤ W.heap.size) (hB : n₀ ≤ B)
    (hown' : w1.ownsRow N e 1 v' m ys) (hgrow : (W.alloc tmp).grownBy w1 v.ownBlock) :
    Boxed w1 B t v ∧ Boxed (w1.setCell ⟨B, 0, none⟩ v') B t v' ∧ (w1.setCell ⟨B, 0, none⟩ v').ownsRow N e 1 v' m ys ∧ KeepsOthers W (w1.setCell ⟨B, 0, none⟩ v') ∧ Below n₀ W (w1.setCell ⟨B, 0, none⟩ v') ∧
    (∀ B2 t2 u, B2 ≠ B → t2 ≠ e → Boxed W B2 t2 u → Boxed w1 B2 t2 u ∧ Boxed (w1.setCell ⟨B, 0, none⟩ v') B2 t2 u) ∧ (∀ e2 u k2 us, e2 ≠ e → t ≠ e2 → W.ownsRow N e2 1 u k2 us → (w1.setCell ⟨B, 0, none⟩ v').ownsRow N e2 1 u k2 us) ∧
    (∀ b, b < N → b ≠ B → Keep b W (w1.setCell ⟨B, 0, none⟩ v')) := by
  obtain ⟨hv1, hv2, _, hk2, hb2⟩ := hv.appended hte (own_mono hrow hn) (Nat.le_trans hn hN) hB (own_mono hown' hn) hgrow
  refine ⟨hv1, hv2, hown'.kept (grownBy_setCell' w1 B v') (.inr (hv1.not_row hte hown').symm), hk2, hb2, ?_, ?_, ?_⟩
  · intro B2 t2 u hne ht hu
    have h1 : Boxed w1 B2 t2 u := (hu.alloc tmp).kept hgrow (hu.not_row ht hrow)
    exact ⟨h1, h1.kept (grownBy_setCell' w1 B v') (fun e => hne (Option.some.inj e))⟩
  · intro e2 u k2 us hne ht hu
    have h0 : u.ownBlock = none ∨ u.ownBlock ≠ v.ownBlock := by
      rcases hu.2 with ⟨rfl, _⟩ | ⟨g, cap, cur, rfl, _, hg, _⟩
      · exact .inl rfl
      · refine .inr fun e' => ?_
        rcases hrow.2 with ⟨rfl, _⟩ | ⟨g', cap', cur', rfl, _, hg', _⟩
        · cases e'
        · obtain rfl : g = g' := by simpa [Value.ownBlock] using e'
          rw [hg] at hg'
          simp at hg'
          exact hne hg'.2
    have h1 := (hu.alloc tmp).kept hgrow h0
    exact h1.kept (grownBy_setCell' w1 B v') (.inr (hv1.not_row ht h1).symm)
  · intro b hb hne
    have hbW : b < W.heap.size := Nat.lt_of_lt_of_le hb hN
    have h1 : some b ≠ v.ownBlock := by
      intro e'
      have := (hrow.lt b e'.symm).1
      omega
    exact ((grownBy_setCell' w1 B v').block b (Nat.lt_of_lt_of_le (by simpa using Nat.lt_succ_of_lt hbW) hgrow.size) (fun e => hne (Option.some.inj e))).trans ((hgrow.block b (by simpa using Nat.lt_succ_of_lt hbW) h1).trans (Below.heap_alloc _ _ _ hbW))

set_option maxRecDepth 100000 in
set_option maxHeartbeats 4000000 in
theorem gone_S {w : World} {p : Option Addr} {bs : List Nat} {cap : Nat} (zs : List ByteArray) (hz : zs.length ≤ 65536) (HQ : QP w 9 1 87 p bs cap (zs.map fun z => [Value.string z])) :
    Calls Try.prog 26 #[.pointer p] w fun e w' => ∃ v u, e = .returned (.tuple #[v, u, .bool true]) ∧ w'.ownsRow w.heap.size 3 1 v zs.length ((upto (fun j => (j, zs[j]?.getD ⟨#[]⟩)) zs.length).map fun x => Value.int .i64 (x.1 : Int)) ∧ w'.ownsRow w.heap.size 9 1 u zs.length ((upto (fun j => (j, zs[j]?.getD ⟨#[]⟩)) zs.length).map fun x => Value.string x.2) ∧ Below w.heap.size w w' := by
  obtain ⟨i0, hi, hz0, hz1, hz2⟩ := info_parts infoQ_I
  obtain ⟨i1, hj, hy0, hy1, hy2⟩ := info_parts infoQ_S
  have HB2 : Hid (Below w.heap.size w ((w.alloc (.cells #[.slice none 0 0] 59)).alloc (.cells #[.slice none 0 0] 50))) := ((Below.refl _ w).alloc (Nat.le_refl _) _).alloc (by simp) _
  have HA : Hid (_) := qAll_S zs (HQ.below HB2.out)
  have bO := (Boxed.new w 59 (.slice none 0 0)).alloc (.cells #[.slice none 0 0] 50)
  have bP := Boxed.new (w.alloc (.cells #[.slice none 0 0] 59)) 50 (.slice none 0 0)
  rw [World.size_alloc] at bP
  refine (callsIn_wide (n := 4)).1 ?_
  refine callsIn_of_wp_marks Try.func26 rfl trivial ?_ rfl
  simp only [Try.ntmps26, List.size_toArray, List.length_cons, List.length_nil, Nat.reduceAdd, Nat.reduceSub, Array.replicate_succ, Array.replicate_zero, List.push_toArray, List.append_toArray, List.nil_append, List.cons_append]
  have hq : ∀ (k : Nat) (cs : Array Value) (W : World), (binOp .eql 89 (.func (.func k) #[] cs) .nilFunc).run Try.prog W = .ok (.bool false) W := fun k cs W => by kernel_rfl
  gi_wp2_with (refine ⟨trivial, ?_⟩; gi_at_call 45; refine (callsIn_wide.2 HA.out).mono ?_; rintro e w3 ⟨Bs, b, sv, rfl, hBs, hBs3, hcB, hb0, hb1, hL, hb3⟩)
  have bO3 : Boxed w3 w.heap.size 59 (.slice none 0 0) := (hb3.block _ (by simp; omega)).trans bO
  have bP3 : Boxed w3 (w.heap.size + 1) 50 (.slice none 0 0) := (hb3.block _ (by simp)).trans bP
  have HB3 : Below w.heap.size w w3 := HB2.out.trans (hb3.mono (by simp; omega))
  have hb0' : w.heap.size + 2 ≤ b := by simpa using hb0
  have HB3' : Hid (Below w.heap.size w w3) := HB3
  have hsz3 : w.heap.size + 1 < w3.heap.size := bP3.lt
  clear HA HB2 bO bP hb3 HQ hb0 hBs HB3
  refine wpIn_rangeFunc_ownG rfl (by omega) (gf := 56) (lb := #[.pointer (some ⟨Bs, 0, none⟩)]) rfl trivial (enters_of Try.func56 (by kernel_rfl) rfl)
    (all_stops_S Fence.wide 3 trivial rfl (by omega) Bs b sv zs (by omega) _ hBs3 hb1 hcB hL) keepK_t (keepK_b hb1) (Below.refl _ _) (fun _ => rfl)
    (fun (pre : List (Nat × ByteArray)) W => ((∃ v, Boxed W w.heap.size 59 v ∧ W.ownsRow w3.heap.size 3 1 v pre.length (pre.map fun x => Value.int .i64 (x.1 : Int)) ∧ True) ∧ (∃ u, Boxed W (w.heap.size + 1) 50 u ∧ W.ownsRow w3.heap.size 9 1 u pre.length (pre.map fun x => Value.string x.2) ∧ True)) ∧ (Below w.heap.size w W ∧ w3.heap.size ≤ W.heap.size))
    (fun _ _ _ => False)
    (OwnFrom.and (OwnFrom.and (Own.from (holdsRow_own w3.heap.size w.heap.size 59 3 1 (fun pre : List (Nat × ByteArray) => pre.length) (fun pre : List (Nat × ByteArray) => pre.map fun x => Value.int .i64 (x.1 : Int)) (fun _ _ => True)) _) (Own.from (holdsRow_own w3.heap.size (w.heap.size + 1) 50 9 1 (fun pre : List (Nat × ByteArray) => pre.length) (fun pre : List (Nat × ByteArray) => pre.map fun x => Value.string x.2) (fun _ _ => True)) _)) (OwnFrom.and (ownFrom_below (Nat.le_refl _) (by omega)) (fun _ _ _ _ h hg _ => Nat.le_trans h hg.size)))
    (fun _ _ _ _ _ hs _ _ => hs)
    ⟨⟨⟨_, bO3, World.ownsRow_nil _ _ _ _, trivial⟩, ⟨_, bP3, World.ownsRow_nil _ _ _ _, trivial⟩⟩, HB3'.out, Nat.le_refl _⟩
    (fun x : Nat × ByteArray => { tmps := #[.pointer p, undef, .slice none 0 0, .slice none 0 0, .bool false, .pointer (some ⟨w.heap.size, 0, none⟩), .pointer (some ⟨w.heap.size + 1, 0, none⟩), .func (.func 56) #[] #[.pointer (some ⟨Bs, 0, none⟩)], .int .i64 (x.1 : Int), .string x.2, .pointer p, .func (.func 56) #[] #[.pointer (some ⟨Bs, 0, none⟩)], .func (.func 56) #[] #[.pointer (some ⟨Bs, 0, none⟩)], .bool false, .func (.func 56) #[] #[.pointer (some ⟨Bs, 0, none⟩)], .int .i64 (x.1 : Int), .string x.2, undef, undef, undef, undef, undef, undef, undef, undef, undef, undef, undef, undef, undef], defers := [] }) ?assign ?body ?done ?stop
  case assign =>
    intro l x W K hK
    gi_wp2
    exact hK
  case body =>
    rintro l pre x W ⟨⟨⟨v, hv, hrow, _⟩, ⟨u, hu, hrou, _⟩⟩, hB, hS⟩ hlt
    have hc := hv.cell
    have hlv : ∃ a c, v = .slice a pre.length c := by
      rcases hrow.2 with ⟨rfl, e⟩ | ⟨g, c, _, rfl, _⟩
      · exact ⟨none, 0, by rw [e]⟩
      · exact ⟨_, c, rfl⟩
    obtain ⟨av, cv, rfl⟩ := hlv
    have hlu : ∃ a c, u = .slice a pre.length c := by
      rcases hrou.2 with ⟨rfl, e⟩ | ⟨g, c, _, rfl, _⟩
      · exact ⟨none, 0, by rw [e]⟩
      · exact ⟨_, c, rfl⟩
    obtain ⟨au, cu, rfl⟩ := hlu
    have hnb : ¬ (65536 : Int) < (pre.length : Int) := by omega
    gi_wp2_with (first | (gi_at_builtin; refine wpListIn_append_own _ rfl _ _ 59 rfl w3.heap.size 3 i0 (.int .i64 0) 1 8 Try.underlying59 hi hz0 hz1 hz2 rfl (by decide) _ _ _ rfl (hrow.alloc _) ⟨W.heap.size, 0, none⟩ 1 1 [.int .i64 (x.1 : Int)] rfl rfl (cell_one_new _ _ _) (by simp [Value.oneCell']) (by unfold maxLen; omega) (by omega) (by simp; omega) ?_; intro v' w5 hown' hgrow _; obtain ⟨g', cap', rfl⟩ := ownsRow_succ hown'; obtain ⟨hv1, hv2, hr2, hk2, hb2, hbx, hrx, hkp⟩ := coll (n₀ := w.heap.size) hv (by decide) hrow (by omega) hS (Nat.le_refl _) hown' hgrow; have hc1 := hv1.cell; have hf1 := hv1.frozen; obtain ⟨hu1, hu2⟩ := hbx _ _ _ (by omega) (by decide) hu; have hru2 := hrx _ _ _ _ (by decide) (by decide) hrou; have hcu := hu2.cell; have hcn := cell_one_new (w5.setCell ⟨w.heap.size, 0, none⟩ (.slice (some ⟨g', 0, none⟩) (pre.length + 1) cap')) (.string x.2) 9; rw [show (w5.setCell ⟨w.heap.size, 0, none⟩ (.slice (some ⟨g', 0, none⟩) (pre.length + 1) cap')).heap.size = w5.heap.size by simp] at hcn) | (gi_at_builtin; refine wpListIn_append_own _ rfl _ _ 50 rfl w3.heap.size 9 i1 (.string ⟨#[]⟩) 1 16 Try.underlying50 hj hy0 hy1 hy2 rfl (by decide) _ _ _ rfl (hru2.alloc _) ⟨w5.heap.size, 0, none⟩ 1 1 [.string x.2] rfl rfl hcn (by simp [Value.oneCell']) (by unfold maxLen; omega) (by omega) (by have := hb2.size; simp at this ⊢; omega) ?_; intro u' w7 hown7 hgrow7 _; obtain ⟨g7, cap7, rfl⟩ := ownsRow_succ hown7; obtain ⟨hu3, hu4, hr4, hk4, hb4, hbx4, hrx4, hkp4⟩ := coll (n₀ := w.heap.size) hu2 (by decide) hru2 (by omega) (Nat.le_trans hS hb2.size) (by omega) hown7 hgrow7; have hc3 := hu3.cell; have hf3 := hu3.frozen; have hv4 := (hbx4 _ _ _ (by omega) (by decide) hv2).2; have hr5 := hrx4 _ _ _ _ (by decide) (by decide) hr2))
    exact ⟨(hk2.trans hk4).from _, (hkp b hb1 (by omega)).trans (hkp4 b hb1 (by omega)), ⟨⟨_, hv4, by rw [List.length_append, List.map_append]; exact hr5⟩, ⟨_, hu4, by rw [List.length_append, List.map_append]; exact hr4⟩⟩, hB.trans (hb2.trans hb4), Nat.le_trans hS (Nat.le_trans hb2.size hb4.size)⟩
  case done =>
    rintro D ys W hD rfl ⟨⟨⟨v, hv, hrow, _⟩, ⟨u, hu, hrou, _⟩⟩, hB, hS⟩ hK
    have hc := hv.cell
    have hc2 := hu.cell
    gi_wp2
    gi_region
    all_goals
      have hK' : W.drew.heap[D]? = some (Obj.deferred (some [])) := hK
      gi_wp2
      refine ⟨by simp, .inl ⟨_, _, rfl, run_takeDeferred hK', ?_⟩⟩
      rw [upto_length] at hrow hrou
      have hrow' : W.drew.ownsRow w3.heap.size 3 1 v zs.length _ := ((But.refl [] W).drew).owns hrow (fun _ _ e => by cases e)
      have hrou' : W.drew.ownsRow w3.heap.size 9 1 u zs.length _ := ((But.refl [] W).drew).owns hrou (fun _ _ e => by cases e)
      exact ⟨.tuple #[v, u, .bool true], by simp [results, Try.results26, go_sem], v, u, rfl, own_mono (ownsRow_putObj hrow' _ hK' rfl) (by omega), own_mono (ownsRow_putObj hrou' _ hK' rfl) (by omega), hB.drew.trans (belowK_b (w := w) (Nat.le_refl _) W.drew D _ _ (by omega) hK' rfl rfl)⟩
  case stop =>
    rintro D c pre W _ _ h _
    exact h.elim

end Rg
end Go.Proofs.Ytjhlflochheolaa

/-
  The laws' own test of a queue of one text.
-/
set_option maxRecDepth 100000
set_option linter.unusedVariables false
set_option linter.unusedSimpArgs false
namespace Go.Proofs.Ytjhlflochheolaa
open Go.RowKit
namespace Rg

set_option maxHeartbeats 2000000 in
theorem steady_any (w : World) : Calls Try.prog 16 #[] w fun e w' => e = .returned (.bool true) ∧ Below w.heap.size w w' := by
  go_enter Try.func16, Try.ntmps16
  go_wp2_with fail
  refine (qNew_S w 1 (by omega) (by omega)).mono ?_
  rintro e w1 ⟨p, bs, cap, E, rfl, hnew, hq, hb⟩
  rcases hnew with ⟨_, _, rfl, hcap, rfl, rfl⟩ | ⟨hbad, _⟩
  · obtain rfl : cap = 1 := by omega
    have HB1 : Hid (Below w.heap.size w w1) := hb
    have HQ1 : Hid (QP w1 9 1 87 (some ⟨w.heap.size, 0, none⟩) [w.heap.size] 1 []) := hq
    clear hq hb hcap
    go_wp2_with fail
    refine (qPush_S HQ1.out _ (by simp)).mono ?_
    rintro e w2 ⟨rfl, bs2, hq2, hin2, hb2⟩
    have HQ2 : Hid (QP w2 9 1 87 (some ⟨w.heap.size, 0, none⟩) bs2 1 [[.string ⟨#[97]⟩]]) := hq2
    have HI2 : Hid (∀ b ∈ bs2, w.heap.size ≤ b) := (fun b hb => by
      rcases hin2 b hb with h | h
      · simp at h; omega
      · have := HB1.out.size; omega : ∀ b ∈ bs2, w.heap.size ≤ b)
    have HB2 : Hid (Below w.heap.size w w2) := HB1.out.trans (hb2.below HB1.out.size (by simp))
    clear hq2 hin2 hb2
    go_wp2_with fail
    refine (qPushNo_S HQ2.out _ (by simp)).mono ?_
    rintro e w3 ⟨rfl, hb3⟩
    have HB3 : Hid (Below w.heap.size w w3) := bel_trans HB2.out hb3
    have HQ3 : Hid (QP w3 9 1 87 (some ⟨w.heap.size, 0, none⟩) bs2 1 [[.string ⟨#[97]⟩]]) := HQ2.out.below hb3
    clear hb3
    go_wp2_with fail
    refine (qPop_S _ HQ3.out).mono ?_
    rintro e w4 ⟨rfl, hq4, hb4⟩
    have HB4 : Hid (Below w.heap.size w w4) := HB3.out.trans (hb4.below HB3.out.size HI2.out)
    clear hq4 hb4
    go_wp2
    go_ret
    exact ⟨rfl, HB4.out⟩
  · omega

end Rg
end Go.Proofs.Ytjhlflochheolaa
