/- Several texts as one. -/
import Derived.Test.YtlnlhhobmgiceaaGreatDoorMgJ
import Derived.RangeFuncNested
import Derived.RangeFuncBound
import Derived.RangeFuncCalls
import Derived.RangeFuncLeaves
import Derived.Shelf.Abstract
import Derived.Shelf.RegionOpen
import Derived.WalkKit
import Derived.OwnWalkIn
import Derived.TacticsInMore
import Derived.LoopNIn
import Derived.LoopIn
import Derived.Test.YtlnlhhobmgiceaaGreatDoorMgD
import Derived.Test.YtlnlhhobmgiceaaGreatDoorMgE
/-
  target: the iterator over the signs of a text.
-/
set_option linter.unusedVariables false
set_option linter.unusedSimpArgs false
namespace Go.Proofs.YtlnlhhobmgiceaaGreatDoor
open Go.RowKit Go.Shelf
attribute [local go_sem] Oper.semAt_some
namespace Tg
open Oc

/-- A block lies as it lay. -/
def Keep (b : Nat) (A B : World) : Prop := B.heap[b]? = A.heap[b]?
theorem Keep.refl (b : Nat) (A : World) : Keep b A A := rfl
theorem Keep.trans {b : Nat} {A B C : World} (h : Keep b A B) (k : Keep b B C) : Keep b A C := Eq.trans k h
theorem Keep.cell {b : Nat} {A B : World} (h : Keep b A B) (i : Nat) : B.cell? ⟨b, i, none⟩ = A.cell? ⟨b, i, none⟩ := World.cell?_of_block (w := A) (w' := B) (a := ⟨b, i, none⟩) h
theorem Keep.below {b n : Nat} {A B : World} (h : Below n A B) (hb : b < n) : Keep b A B := h.block b hb
theorem keepK_t {b : Nat} {A B C : World} (h : Keep b A B) (k : Keep b B C) : Keep b A C := h.trans k
theorem keepK_b {b : Nat} {w : World} (hb : b < w.heap.size) (W : World) (l : Nat) (o o' : Obj) (hl : w.heap.size ≤ l) (h : W.heap[l]? = some o) (hc : o.isCells = false) (hw : o.isWalk = false) : Keep b W (W.putObj l o') :=
  (belowK_b (w := w) (Nat.le_refl _) W l o o' hl h hc hw).block b hb

def encS (x : Sg) : Array Value := #[.int .i64 (x.at_ : Int), .string (str x.z)]

theorem grown_of_below {w w' : World} (h : Below w.heap.size w w') : w.grownBy w' none := ⟨h.os, h.tape, h.output, h.size, fun k hk _ => h.block k hk⟩

theorem ext_list (s : ByteArray) (a b : Nat) : (s.extract a b).data.toList = (s.data.toList.drop a).take (b - a) := by
  rw [ByteArray.data_extract, Array.toList_extract, List.extract_eq_take_drop]
theorem ext_rest (s : ByteArray) (k : Nat) : ((s.extract k s.size).extract 0 3).data.toList = (s.data.toList.drop k).take 3 := by
  rw [ext_list, ext_list, List.drop_zero, Nat.sub_zero, List.take_of_length_le (l := s.data.toList.drop k) (by rw [List.length_drop, size_list]; omega)]
theorem drop_cons (s : ByteArray) (k : Nat) (h : k < s.size) : s.data.toList.drop k = s.data.toList.getD k 0 :: s.data.toList.drop (k + 1) := by
  have hl : k < s.data.toList.length := by rw [size_list]; exact h
  rw [List.drop_eq_getElem_cons hl, List.getD_eq_getElem?_getD, List.getElem?_eq_getElem hl]; rfl
theorem cell_lt {w : World} {b i : Nat} {v : Value} (h : w.cell? ⟨b, i, none⟩ = some v) : b < w.heap.size := by
  rcases Nat.lt_or_ge b w.heap.size with h' | h'
  · exact h'
  · simp [World.cell?, Array.getElem?_eq_none h'] at h
/-- One sign more. -/
theorem sg_next3 (s : ByteArray) (k : Nat) (h : trip (s.data.toList.drop k) = true) : ∃ x : Sg, sg k (s.data.toList.drop k) = x :: sg (k + 3) (s.data.toList.drop (k + 3)) ∧ encS x = #[.int .i64 (k : Int), .string (s.extract k (k + 3))] := by
  refine ⟨_, by rw [sg_trip k _ h, List.drop_drop], ?_⟩
  unfold encS
  dsimp only
  rw [show str (List.take 3 (s.data.toList.drop k)) = s.extract k (k + 3) from eq_list (by rw [str_list, ext_list]; congr 1; omega)]
theorem sg_next1 (s : ByteArray) (k : Nat) (hk : k < s.size) (h : trip (s.data.toList.drop k) = false) : ∃ x : Sg, sg k (s.data.toList.drop k) = x :: sg (k + 1) (s.data.toList.drop (k + 1)) ∧ encS x = #[.int .i64 (k : Int), .string (s.extract k (k + 1))] := by
  rw [drop_cons s k hk] at h ⊢
  refine ⟨_, sg_one k _ _ h, ?_⟩
  unfold encS
  dsimp only
  rw [show str [s.data.toList.getD k 0] = s.extract k (k + 1) from eq_list (by rw [str_list, ext_list, drop_cons s k hk, Nat.add_sub_cancel_left]; rfl)]

set_option maxRecDepth 100000 in
set_option maxHeartbeats 2000000 in
theorem signs1_in (n : Nat) (l Bs : Nat) (s : ByteArray) (hs : s.size ≤ 140737488355328) (J Jx : List Sg → World → Prop)
    (hJb : ∀ pre W W', J pre W → Below W.heap.size W W' → J pre W')
    (hY : ∀ pre x W, J pre W → pre.length < s.size → YieldAt Fence.wide (n - 1) Tryz.prog l (encS x) W fun e W' =>
      (e = .returned (.bool true) ∧ J (pre ++ [x]) W' ∧ Keep Bs W W') ∨ (e = .returned (.bool false) ∧ Jx (pre ++ [x]) W'))
    (W : World) (hBs : W.cell? ⟨Bs, 0, none⟩ = some (.string s)) (hBl : Bs < W.heap.size) (h0 : J [] W) :
    CallsIn Fence.wide n Tryz.prog 79 #[.func (.yield l) #[] #[], .pointer (some ⟨Bs, 0, none⟩)] W fun e W' => (∃ v, e = .returned v) ∧
      ((∃ ys, ys = sg 0 s.data.toList ∧ J ys W') ∨ (∃ pre, (∃ rest, pre ++ rest = sg 0 s.data.toList) ∧ Jx pre W')) := by
  refine callsIn_of_wp Tryz.func79 rfl trivial ?_ rfl
  simp only [Tryz.ntmps79, List.size_toArray, List.length_cons, List.length_nil, Nat.reduceAdd, Nat.reduceSub, Array.replicate_succ, Array.replicate_zero, List.push_toArray, List.append_toArray, List.nil_append, List.cons_append]
  gi_wp2
  gi_loopw [3] (fun i wr => ∃ k : Nat, k ≤ s.size ∧ i = .int .i64 k ∧ ∃ pre, Hid (pre ++ sg k (s.data.toList.drop k) = sg 0 s.data.toList) ∧ Hid (pre.length ≤ k) ∧ J pre wr ∧ wr.cell? ⟨Bs, 0, none⟩ = some (.string s) ∧ Bs < wr.heap.size)
    (fun i _ => s.size - (intOf i).toNat)
  case atStart => exact ⟨0, Nat.zero_le _, rfl, [], (rfl : [] ++ sg 0 (s.data.toList.drop 0) = _), (Nat.le_refl 0 : _ ≤ 0), h0, hBs, hBl⟩
  case round =>
    obtain ⟨k, hk, rfl, pre, hpre, hpl, hJs, hc, hlb⟩ := hrel
    by_cases hlt : k < s.size
    · by_cases h3 : 3 ≤ s.size - k
      · have HT : Hid (∀ w, Calls Tryz.prog 50 #[.string ((s.extract k s.size).extract 0 3)] w fun e w' => e = .returned (.bool (trip (s.data.toList.drop k))) ∧ Below w.heap.size w w') := fun w => by
          have := isTriple_any ((s.extract k s.size).extract 0 3) w
          have e3 : ((s.extract k s.size).extract 0 3).size = 3 := by
            rw [← size_list, ext_rest, List.length_take, List.length_drop, size_list]; omega
          rw [ext_rest, trip_take, e3, decide_eq_true rfl, Bool.true_and] at this
          exact this
        cases ht : trip (s.data.toList.drop k) with
        | true =>
          obtain ⟨x, hx, he⟩ := sg_next3 s k ht
          rw [ht] at HT
          gi_wp2_with (refine ⟨trivial, (fun h => by cases h), ?_⟩; refine (callsIn_wide.2 (HT.out _)).mono ?_; rintro e w1 ⟨rfl, hb1⟩; have hc1 := (hb1.cell (p := ⟨Bs, 0, none⟩) hlb).trans hc; obtain ⟨fn, tmps, assign, body, hy, hR⟩ := hY _ x w1 (hJb _ _ _ hJs hb1) (Nat.lt_of_le_of_lt hpl.out hlt); rw [he] at hy)
          gi_wp2
          refine ⟨(fun h => by cases h), hR.mono ?_⟩
          rintro e W3 (⟨rfl, hJ3, hk3⟩ | ⟨rfl, hJx3⟩)
          · have hc3 : W3.cell? ⟨Bs, 0, none⟩ = some (.string s) := (hk3.cell _).trans hc1
            have hl3 : Bs < W3.heap.size := cell_lt hc3
            gi_wp2
            go_roundw
            case rel => exact ⟨k + 3, by omega, by simp, pre ++ [x], (by rw [List.append_assoc]; exact (congrArg (pre ++ ·) hx).symm.trans hpre.out : (pre ++ [x]) ++ sg (k + 3) (s.data.toList.drop (k + 3)) = _), (by have := hpl.out; rw [List.length_append, List.length_singleton]; omega : (pre ++ [x]).length ≤ k + 3), hJ3, hc3, hl3⟩
            case measure => simp [intOf]; omega
          · gi_wp2
            refine bodyPost_ret (results_none rfl _ _ _) rfl ?_
            exact ⟨⟨_, rfl⟩, .inr ⟨_, ⟨sg (k + 3) (s.data.toList.drop (k + 3)), by rw [List.append_assoc]; exact (congrArg (pre ++ ·) hx).symm.trans hpre.out⟩, hJx3⟩⟩
        | false =>
          obtain ⟨x, hx, he⟩ := sg_next1 s k hlt ht
          rw [ht] at HT
          gi_wp2_with (refine ⟨trivial, (fun h => by cases h), ?_⟩; refine (callsIn_wide.2 (HT.out _)).mono ?_; rintro e w1 ⟨rfl, hb1⟩; have hc1 := (hb1.cell (p := ⟨Bs, 0, none⟩) hlb).trans hc; obtain ⟨fn, tmps, assign, body, hy, hR⟩ := hY _ x w1 (hJb _ _ _ hJs hb1) (Nat.lt_of_le_of_lt hpl.out hlt); rw [he] at hy)
          gi_wp2
          refine ⟨(fun h => by cases h), hR.mono ?_⟩
          rintro e W3 (⟨rfl, hJ3, hk3⟩ | ⟨rfl, hJx3⟩)
          · have hc3 : W3.cell? ⟨Bs, 0, none⟩ = some (.string s) := (hk3.cell _).trans hc1
            have hl3 : Bs < W3.heap.size := cell_lt hc3
            gi_wp2
            go_roundw
            case rel => exact ⟨k + 1, by omega, by simp, pre ++ [x], (by rw [List.append_assoc]; exact (congrArg (pre ++ ·) hx).symm.trans hpre.out : (pre ++ [x]) ++ sg (k + 1) (s.data.toList.drop (k + 1)) = _), (by have := hpl.out; rw [List.length_append, List.length_singleton]; omega : (pre ++ [x]).length ≤ k + 1), hJ3, hc3, hl3⟩
            case measure => simp [intOf]; omega
          · gi_wp2
            refine bodyPost_ret (results_none rfl _ _ _) rfl ?_
            exact ⟨⟨_, rfl⟩, .inr ⟨_, ⟨sg (k + 1) (s.data.toList.drop (k + 1)), by rw [List.append_assoc]; exact (congrArg (pre ++ ·) hx).symm.trans hpre.out⟩, hJx3⟩⟩
      · have ht : trip (s.data.toList.drop k) = false := by
          cases hh : trip (s.data.toList.drop k) with
          | false => rfl
          | true => have := trip_len hh; rw [List.length_drop, size_list] at this; omega
        obtain ⟨x, hx, he⟩ := sg_next1 s k hlt ht
        obtain ⟨fn, tmps, assign, body, hy, hR⟩ := hY _ x wr hJs (Nat.lt_of_le_of_lt hpl.out hlt)
        rw [he] at hy
        gi_wp2
        refine ⟨trivial, ?_⟩
        gi_wp2
        refine ⟨(fun h => by cases h), hR.mono ?_⟩
        rintro e W3 (⟨rfl, hJ3, hk3⟩ | ⟨rfl, hJx3⟩)
        · have hc3 : W3.cell? ⟨Bs, 0, none⟩ = some (.string s) := (hk3.cell _).trans hc
          have hl3 : Bs < W3.heap.size := cell_lt hc3
          gi_wp2
          go_roundw
          case rel => exact ⟨k + 1, by omega, by simp, pre ++ [x], (by rw [List.append_assoc]; exact (congrArg (pre ++ ·) hx).symm.trans hpre.out : (pre ++ [x]) ++ sg (k + 1) (s.data.toList.drop (k + 1)) = _), (by have := hpl.out; rw [List.length_append, List.length_singleton]; omega : (pre ++ [x]).length ≤ k + 1), hJ3, hc3, hl3⟩
          case measure => simp [intOf]; omega
        · gi_wp2
          refine bodyPost_ret (results_none rfl _ _ _) rfl ?_
          exact ⟨⟨_, rfl⟩, .inr ⟨_, ⟨sg (k + 1) (s.data.toList.drop (k + 1)), by rw [List.append_assoc]; exact (congrArg (pre ++ ·) hx).symm.trans hpre.out⟩, hJx3⟩⟩
    · obtain rfl : k = s.size := by omega
      have hfin : pre = sg 0 s.data.toList := by
        have := hpre.out
        rw [List.drop_of_length_le (by rw [size_list]; exact Nat.le_refl _), sg_nil, List.append_nil] at this
        exact this
      gi_wp2
      go_end0
      exact ⟨⟨_, rfl⟩, .inl ⟨_, hfin, hJs⟩⟩

theorem signs_stops (n : Nat) (Bs : Nat) (s : ByteArray) (hs : s.size ≤ 140737488355328) (w : World) (hc : w.cell? ⟨Bs, 0, none⟩ = some (.string s)) :
    SeqStopsK Fence.wide n Tryz.prog 79 #[.pointer (some ⟨Bs, 0, none⟩)] encS (Keep Bs) (fun ys => ys = sg 0 s.data.toList)
      (fun pre => ∃ rest, pre ++ rest = sg 0 s.data.toList) s.size w := fun l J Jx W hW hJ _ hY h0 => by
  have hl := cell_lt hc
  have hc' := (hW.cell (p := ⟨Bs, 0, none⟩) hl).trans hc
  exact signs1_in n l Bs s hs J Jx (fun pre A B h hb => hJ _ _ _ _ h (grown_of_below hb) (fun r e => by cases e)) hY W hc' (cell_lt hc') h0

set_option maxRecDepth 100000 in
set_option maxHeartbeats 1000000 in
theorem signs_any (s : ByteArray) (w : World) : Calls Tryz.prog 49 #[.string s] w fun e w' => e = .returned (.func (.func 79) #[] #[.pointer (some ⟨w.heap.size, 0, none⟩)]) ∧ w' = w.alloc (.cells #[.string s] 9) := by
  go_enter Tryz.func49, Tryz.ntmps49
  go_wp2
  go_ret
  exact ⟨rfl, rfl⟩

end Tg
end Go.Proofs.YtlnlhhobmgiceaaGreatDoor

/-
  A strings.Builder: its buffer lies at or beyond B, what is written turns the builder's own block and the buffer alone.
-/
set_option linter.unusedVariables false
set_option linter.unusedSimpArgs false
namespace Go.Proofs.YtlnlhhobmgiceaaGreatDoor
open Go.RowKit Go.Shelf
namespace Tg
open Oc

/-- What a write turns: block b, and blocks at or beyond B that are cells. -/
structure Fr (B b : Nat) (w w' : World) : Prop where
  os : w'.os = w.os
  tape : w'.tape = w.tape
  output : w'.output = w.output
  block : ∀ k, k < B → k ≠ b → w'.heap[k]? = w.heap[k]?
  others : KeepsOthers w w'
theorem Fr.size {B b : Nat} {w w' : World} (h : Fr B b w w') : w.heap.size ≤ w'.heap.size := h.others.size
theorem Fr.refl (B b : Nat) (w : World) : Fr B b w w := ⟨rfl, rfl, rfl, fun _ _ _ => rfl, KeepsOthers.refl w⟩
theorem Fr.trans {B b : Nat} {x y z : World} (h : Fr B b x y) (k : Fr B b y z) : Fr B b x z :=
  ⟨k.os.trans h.os, k.tape.trans h.tape, k.output.trans h.output, fun i hi hb => (k.block i hi hb).trans (h.block i hi hb), h.others.trans k.others⟩
theorem Fr.keep {B b c : Nat} {w w' : World} (h : Fr B b w w') (hc : c < B) (hb : c ≠ b) : Keep c w w' := h.block c hc hb
theorem Fr.below {B b n : Nat} {w w' : World} (h : Fr B b w w') (hn : n ≤ B) (hb : n ≤ b) : Below n w w' := ⟨h.os, h.tape, h.output, h.size, fun k hk => h.block k (by omega) (by omega)⟩
theorem Fr.of_below {B b : Nat} {w w' : World} (h : Below w.heap.size w w') (hB : B ≤ w.heap.size) : Fr B b w w' :=
  ⟨h.os, h.tape, h.output, fun k hk _ => h.block k (by omega), ⟨h.size, fun k o hk _ => (h.block k (Array.getElem?_eq_some_iff.1 hk).1).trans hk⟩⟩
theorem Fr.set {B b j : Nat} (w : World) (v : Value) : Fr B b w (w.setCell ⟨b, j, none⟩ v) :=
  ⟨rfl, rfl, rfl, fun k _ hb => Below.heap_setCell _ _ _ _ hb, KeepsOthers.setCell w _ v⟩
theorem Fr.alloc {B b : Nat} (w : World) (o : Obj) (hB : B ≤ w.heap.size) : Fr B b w (w.alloc o) :=
  ⟨rfl, rfl, rfl, fun k hk _ => Lib.alloc_old w o k (by omega), KeepsOthers.alloc w o⟩
theorem Fr.grown {B b : Nat} {w w' : World} {v : Value} {n : Nat} {xs : List Value} (hg : w.grownBy w' v.ownBlock) (ho : w.ownsRow B 5 1 v n xs) (hB : B ≤ w.heap.size) : Fr B b w w' :=
  ⟨hg.os, hg.tape, hg.output, fun k hk _ => hg.block k (by omega) (fun e => by have := (ho.lt k e.symm).1; omega), KeepsOthers.of_grownBy hg (fun j o hj ho' => by
    rcases ho.2 with ⟨rfl, _⟩ | ⟨g, cap, cur, rfl, _, hgg, _⟩
    · cases hj
    · simp only [Value.ownBlock, Option.some.injEq] at hj
      subst hj
      rw [hgg] at ho'
      cases ho'
      rfl)⟩

/-- A builder in block b that holds l; its buffer lies at or beyond B. -/
def BdAt (B b : Nat) (p : Value) (l : List Value) (w : World) : Prop :=
  ∃ v, w.heap[b]? = some (.cells #[p, v] 92 (0, 0)) ∧ w.ownsRow B 5 1 v l.length l ∧ v.ownBlock ≠ some b
def Bd (B b : Nat) (l : List Value) (w : World) : Prop := BdAt B b (.pointer none) l w ∨ BdAt B b (.pointer (some ⟨b, 0, none⟩)) l w
theorem Bd.isB {B b : Nat} {l : List Value} {w : World} (h : Bd B b l w) : ∀ C, C ≤ B → C ≤ b → Lib.IsBuilder 92 5 C b l w := by
  intro C h1 h2
  have lower : ∀ {v : Value}, w.ownsRow B 5 1 v l.length l → w.ownsRow C 5 1 v l.length l := fun h => ⟨h.1, h.2.imp id fun ⟨g, c, cur, e, hg, r⟩ => ⟨g, c, cur, e, Nat.le_trans h1 hg, r⟩⟩
  rcases h with ⟨v, a, o, n⟩ | ⟨v, a, o, n⟩
  · exact .inl ⟨h2, v, a, lower o, n⟩
  · exact .inr ⟨h2, v, a, lower o, n⟩
theorem Bd.lt {B b : Nat} {l : List Value} {w : World} (h : Bd B b l w) : b < w.heap.size := by
  rcases h with ⟨v, a, _⟩ | ⟨v, a, _⟩ <;> exact (Array.getElem?_eq_some_iff.1 a).1
theorem BdAt.below {B b : Nat} {p : Value} {l : List Value} {w w' : World} (h : BdAt B b p l w) (hb : Below w.heap.size w w') : BdAt B b p l w' := by
  obtain ⟨v, a, o, n⟩ := h
  refine ⟨v, (hb.block b (Array.getElem?_eq_some_iff.1 a).1).trans a, ⟨o.1, o.2.imp id fun ⟨g, c, cur, e, hg, hh, r⟩ => ⟨g, c, cur, e, hg, (hb.block g (Array.getElem?_eq_some_iff.1 hh).1).trans hh, r⟩⟩, n⟩
theorem Bd.below {B b : Nat} {l : List Value} {w w' : World} (h : Bd B b l w) (hb : Below w.heap.size w w') : Bd B b l w' := h.imp (fun h => h.below hb) (fun h => h.below hb)
theorem Bd.new (w : World) (B : Nat) : Bd B w.heap.size [] (w.alloc (.cells #[.pointer none, .slice none 0 0] 92)) :=
  .inl ⟨.slice none 0 0, World.alloc_heap_new w _, World.ownsRow_nil _ _ _ _, by simp [Value.ownBlock]⟩
/-- It is its own: nothing else turns it. -/
theorem bd_own {β : Type} (B b : Nat) (f : β → List Value) : Own (fun s W => Bd B b (f s) W) := by
  intro s X Y row hs hg hrow
  have key : ∀ p, BdAt B b p (f s) X → BdAt B b p (f s) Y := by
    rintro p ⟨v, a, o, n⟩
    have hb : some b ≠ row := fun e => by
      obtain ⟨o', h1, h2⟩ := hrow b e.symm
      rw [a] at h1; cases h1; cases h2
    refine ⟨v, (hg.block b (Array.getElem?_eq_some_iff.1 a).1 hb).trans a, o.kept hg ?_, n⟩
    rcases o.2 with ⟨rfl, _⟩ | ⟨g, cap, cur, rfl, _, hgg, _⟩
    · exact .inl rfl
    · refine .inr fun e => ?_
      obtain ⟨o', h1, h2⟩ := hrow g e.symm
      rw [hgg] at h1; cases h1; cases h2
  exact hs.imp (key _) (key _)

set_option maxHeartbeats 400000 in
theorem copyCheck_bd (B b : Nat) (l : List Value) (w : World) (h : Bd B b l w) :
    Calls Tryz.prog 81 #[.pointer (some ⟨b, 0, none⟩)] w fun e w' => e = .returned (.tuple #[]) ∧ BdAt B b (.pointer (some ⟨b, 0, none⟩)) l w' ∧ Fr B b w w' := by
  rcases h with h | h
  · have hI : Lib.BuilderAt 92 5 0 b (.pointer none) l w := by
      obtain ⟨v, a, o, n⟩ := h
      exact ⟨Nat.zero_le _, v, a, ⟨o.1, o.2.imp id fun ⟨g, c, cur, e, hg, r⟩ => ⟨g, c, cur, e, Nat.zero_le _, r⟩⟩, n⟩
    refine (copyCheck_fresh b w hI.cell0 hI.shape hI.frozen0).mono ?_
    rintro e w' ⟨rfl, rfl⟩
    refine ⟨rfl, ?_, Fr.set w _⟩
    obtain ⟨v, a, o, n⟩ := h
    refine ⟨v, by simp [World.setCell, Array.getElem?_modify, a], o.kept (grownBy_setCell' w b _) ?_, n⟩
    exact .inr n
  · have hI : Lib.BuilderAt 92 5 0 b (.pointer (some ⟨b, 0, none⟩)) l w := by
      obtain ⟨v, a, o, n⟩ := h
      exact ⟨Nat.zero_le _, v, a, ⟨o.1, o.2.imp id fun ⟨g, c, cur, e, hg, r⟩ => ⟨g, c, cur, e, Nat.zero_le _, r⟩⟩, n⟩
    refine (copyCheck_used b w hI.cell0).mono ?_
    rintro e w' ⟨rfl, rfl⟩
    exact ⟨rfl, h, Fr.refl _ _ _⟩

theorem put_bd {B b : Nat} {p v v' : Value} {l : List Value} {w : World} (hb : w.heap[b]? = some (.cells #[p, v] 92 (0, 0))) (ho : w.ownsRow B 5 1 v' l.length l) : BdAt B b p l (w.setCell ⟨b, 1, none⟩ v') := by
  have hne := Lib.ownBlock_ne ho hb (by decide)
  exact ⟨v', by simp [World.setCell, Array.getElem?_modify, hb], ho.kept (row := some b) ⟨rfl, rfl, rfl, by simp [World.setCell], fun k _ hk => Below.heap_setCell _ _ _ _ (fun e => hk (by simp [e]))⟩ (Or.inr hne), hne⟩

set_option maxHeartbeats 2000000 in
set_option maxRecDepth 100000 in
theorem WriteByte_bd (B b : Nat) (l : List Value) (c : Int) (w : World) (h : Bd B b l w) (hlen : l.length + 1 ≤ 140737488355328) (hBw : B ≤ w.heap.size) :
    Calls Tryz.prog 51 #[.pointer (some ⟨b, 0, none⟩), .int .u8 c] w fun e w' => e = .returned .nilIface ∧ Bd B b (l ++ [.int .u8 c]) w' ∧ Fr B b w w' := by
  obtain ⟨i0, hi, hz0, hz1, hz2⟩ := info_parts infoByte
  go_enter Tryz.func51, Tryz.ntmps51
  go_wp2_with fail
  refine (copyCheck_bd B b l _ h).mono ?_
  rintro e w1 ⟨rfl, h1, hf1⟩
  obtain ⟨v, hbk, hown, hne⟩ := h1
  have c0 : w1.cell? ⟨b, 0, none⟩ = some (.pointer (some ⟨b, 0, none⟩)) := by rw [Lib.cell_of_heap hbk]; rfl
  have c1 : w1.cell? ⟨b, 1, none⟩ = some v := by rw [Lib.cell_of_heap hbk]; rfl
  have hs1 := hf1.size
  have HF1 : Hid (Fr B b w w1) := hf1
  clear hf1
  go_wp2_with (at_builtin; refine wpList_append_own _ rfl _ _ 78 rfl B 5 i0 (.int .u8 0) 1 1 Tryz.underlying78 hi hz0 hz1 hz2 rfl (by decide) _ _ _ rfl (hown.alloc _) ⟨w1.heap.size, 0, none⟩ 1 1 [.int .u8 c] rfl rfl ?c1 ?c2 ?c3 ?c4 ?c5 ?_)
  case c1 =>
    intro j u hj
    match j, hj with
    | 0, hj => simp at hj; subst hj; simp [Addr.add]
  case c2 => intro u hu; simp at hu; subst hu; rfl
  case c3 => unfold maxLen; omega
  case c4 => omega
  case c5 => simp; omega
  intro v' w2 hown' hgrow _
  have hlt : b < w1.heap.size := (Array.getElem?_eq_some_iff.1 hbk).1
  have hb2 : w2.heap[b]? = some (.cells #[.pointer (some ⟨b, 0, none⟩), v] 92 (0, 0)) := by
    rw [hgrow.block b (by simp; omega) (fun e => hne e.symm), Lib.alloc_old w1 _ b hlt]
    exact hbk
  have d0 : w2.cell? ⟨b, 0, none⟩ = some (.pointer (some ⟨b, 0, none⟩)) := by rw [Lib.cell_of_heap hb2]; rfl
  have d1 : w2.cell? ⟨b, 1, none⟩ = some v := by rw [Lib.cell_of_heap hb2]; rfl
  have f1 : w2.frozen? ⟨b, 1, none⟩ = false := Lib.frozen_of_heap hb2 1
  obtain ⟨g, cap, rfl⟩ : ∃ g cap, v' = .slice (some ⟨g, 0, none⟩) (l.length + 1) cap := by
    rcases hown'.2 with ⟨_, h0⟩ | ⟨g, cap, cur, hv, _⟩
    · omega
    · exact ⟨g, cap, hv⟩
  have HF2 : Hid (Fr B b w w2) := (HF1.out.trans (Fr.alloc w1 _ (by omega))).trans (Fr.grown hgrow (hown.alloc _) (by simp; omega))
  go_wp2
  go_ret
  exact ⟨rfl, .inr (put_bd hb2 (by simpa using hown')), HF2.out.trans (Fr.set _ _)⟩

set_option maxHeartbeats 2000000 in
set_option maxRecDepth 100000 in
theorem WriteString_bd (B b : Nat) (l : List Value) (s : ByteArray) (w : World) (h : Bd B b l w) (hlen : l.length + s.size ≤ 140737488355328) (hBw : B ≤ w.heap.size) :
    Calls Tryz.prog 53 #[.pointer (some ⟨b, 0, none⟩), .string s] w fun e w' => e = .returned (.tuple #[.int .i64 s.size, .nilIface]) ∧ Bd B b (l ++ Lib.strCells s) w' ∧ Fr B b w w' := by
  obtain ⟨i0, hi, hz0, hz1, hz2⟩ := info_parts infoByte
  go_enter Tryz.func53, Tryz.ntmps53
  go_wp2_with fail
  refine (copyCheck_bd B b l _ h).mono ?_
  rintro e w1 ⟨rfl, h1, hf1⟩
  obtain ⟨v, hbk, hown, hne⟩ := h1
  have c0 : w1.cell? ⟨b, 0, none⟩ = some (.pointer (some ⟨b, 0, none⟩)) := by rw [Lib.cell_of_heap hbk]; rfl
  have c1 : w1.cell? ⟨b, 1, none⟩ = some v := by rw [Lib.cell_of_heap hbk]; rfl
  have hs1 := hf1.size
  have HF1 : Hid (Fr B b w w1) := hf1
  clear hf1
  go_wp2_with (at_builtin; refine Lib.wpList_append_own_string _ rfl _ _ 78 9 rfl B 5 i0 Tryz.underlying78 Tryz.underlying9 hi hz0 hz1 hz2 _ _ _ rfl hown s rfl ?c3 ?c4 ?c5 ?_)
  case c3 => unfold maxLen; omega
  case c4 => omega
  case c5 => omega
  intro v' w2 hown' hgrow _
  have hlt : b < w1.heap.size := (Array.getElem?_eq_some_iff.1 hbk).1
  have hb2 : w2.heap[b]? = some (.cells #[.pointer (some ⟨b, 0, none⟩), v] 92 (0, 0)) := by
    rw [hgrow.block b hlt (fun e => hne e.symm)]
    exact hbk
  have d0 : w2.cell? ⟨b, 0, none⟩ = some (.pointer (some ⟨b, 0, none⟩)) := by rw [Lib.cell_of_heap hb2]; rfl
  have d1 : w2.cell? ⟨b, 1, none⟩ = some v := by rw [Lib.cell_of_heap hb2]; rfl
  have f1 : w2.frozen? ⟨b, 1, none⟩ = false := Lib.frozen_of_heap hb2 1
  obtain ⟨ao, n', cap, rfl⟩ : ∃ ao n' cap, v' = .slice ao n' cap := by
    rcases hown'.2 with ⟨hv, _⟩ | ⟨g, cap, cur, hv, _⟩
    · exact ⟨_, _, _, hv⟩
    · exact ⟨_, _, _, hv⟩
  have HF2 : Hid (Fr B b w w2) := HF1.out.trans (Fr.grown hgrow hown (by omega))
  go_wp2
  go_ret2
  exact ⟨rfl, .inr (put_bd hb2 (by simpa [Lib.strCells_length] using hown')), HF2.out.trans (Fr.set _ _)⟩

theorem Bd.isF {B b : Nat} {l : List Value} {w : World} (h : Bd B b l w) : Lib.IsBuilderF 92 5 (min B b) b l w :=
  (h.isB _ (Nat.min_le_left _ _) (Nat.min_le_right _ _)).imp Lib.BuilderAtF.of Lib.BuilderAtF.of
theorem String_bd (B b : Nat) (l : List UInt8) (w : World) (h : Bd B b (Lib.byteCells l) w) (hBw : B ≤ w.heap.size) :
    Calls Tryz.prog 54 #[.pointer (some ⟨b, 0, none⟩)] w fun e w' => e = .returned (.string (str l)) ∧ Below (min B b) w w' ∧ Lib.OthersKept 5 (some b) w w' :=
  (Tryz.Builder_String_any_k (min B b) b l w h.isF (Nat.le_trans (Nat.min_le_left _ _) hBw)).mono fun e w' ⟨he, _, hb, ho⟩ => ⟨he, hb, ho⟩
theorem cells_app (l r : List UInt8) : Lib.byteCells (l ++ r) = Lib.byteCells l ++ Lib.byteCells r := by simp [Lib.byteCells]
theorem cells_str (l : List UInt8) : Lib.strCells (str l) = Lib.byteCells l := by simp [Lib.strCells, Lib.byteCells, str]
theorem cells_len (l : List UInt8) : (Lib.byteCells l).length = l.length := by simp [Lib.byteCells]
theorem cells_one (c : UInt8) : Lib.byteCells [c] = [.int .u8 (c.toNat : Int)] := by simp [Lib.byteCells]

end Tg
end Go.Proofs.YtlnlhhobmgiceaaGreatDoor

/-
  target: Encode.
-/
set_option linter.unusedVariables false
set_option linter.unusedSimpArgs false
namespace Go.Proofs.YtlnlhhobmgiceaaGreatDoor
open Go.RowKit Go.Shelf
namespace Tg
open Oc

theorem cls_unr {c : UInt8} (h : unr c = true) : cls c = 1 := by unfold cls; rw [if_pos h]
theorem cls_not {c : UInt8} (h : unr c = false) : (cls c == 1) = false := by
  unfold cls
  rw [if_neg (by simp [h])]
  (repeat' split) <;> decide
theorem take_enc (s : ByteArray) (k : Nat) (h : k < s.size) : enc (s.data.toList.take (k + 1)) = enc (s.data.toList.take k) ++ encB (s.data.toList.getD k 0) := by
  rw [take_snoc s k h, enc_append]; simp [enc]
theorem digits_at (n : Nat) (h : n < 16) : ∀ (h' : n < (⟨#[48, 49, 50, 51, 52, 53, 54, 55, 56, 57, 65, 66, 67, 68, 69, 70]⟩ : ByteArray).size), (⟨#[48, 49, 50, 51, 52, 53, 54, 55, 56, 57, 65, 66, 67, 68, 69, 70]⟩ : ByteArray)[n] = hd n := fun h' => (at_lt _ n h').symm

set_option maxRecDepth 100000 in
set_option maxHeartbeats 4000000 in
theorem Encode_any (s : ByteArray) (hs : s.size ≤ 40000000000) (w : World) :
    Calls Tryz.prog 59 #[.string s] w fun e w' => e = .returned (.string (str (enc s.data.toList))) ∧ Below w.heap.size w w' := by
  have hcv := fun w => Lib.run_convert_string_bytes (P := Tryz.prog) w 9 78 5 s Tryz.underlying9 Tryz.underlying78 Tryz.underlying5
  have hr := bytes_row (w.alloc (.cells #[.pointer none, .slice none 0 0] 92)) 5 s
  have hbb := below_bytes (w.alloc (.cells #[.pointer none, .slice none 0 0] 92)) 5 s
  have hbd := (Bd.new w (w.heap.size + 2)).below hbb
  have hbw : Below w.heap.size w (Lib.bytesWorld (w.alloc (.cells #[.pointer none, .slice none 0 0] 92)) 5 s) := ((Below.refl _ w).alloc (Nat.le_refl _) _).trans (hbb.mono (by simp))
  have hsz : (Lib.bytesWorld (w.alloc (.cells #[.pointer none, .slice none 0 0] 92)) 5 s).heap.size = w.heap.size + 2 := by rw [Lib.bytesWorld_size, World.size_alloc]
  rw [World.size_alloc] at hr
  have HR : Hid (_) := hr
  have HBD : Hid (_) := hbd
  have HBW : Hid (_) := hbw
  have HSZ : Hid (_) := hsz
  clear hr hbd hbw hbb hsz
  go_enter Tryz.func59, Tryz.ntmps59
  go_wp2
  go_loopw [9] (fun i wr => ∃ k : Nat, k ≤ s.size ∧ i = .int .i64 k ∧ Hid (Bd (w.heap.size + 2) w.heap.size (Lib.byteCells (enc (s.data.toList.take k))) wr) ∧ Hid (Keep (w.heap.size + 1) (Lib.bytesWorld (w.alloc (.cells #[.pointer none, .slice none 0 0] 92)) 5 s) wr) ∧ Hid (Below w.heap.size w wr) ∧ Hid (w.heap.size + 2 ≤ wr.heap.size)) (fun i _ => s.size - (intOf i).toNat)
  case atStart => exact ⟨0, Nat.zero_le _, rfl, HBD, (rfl : Keep _ _ _), HBW, (by rw [HSZ.out]; exact Nat.le_refl _ : _ ≤ _)⟩
  case round =>
    obtain ⟨k, hk, rfl, hB, hK, hW, hS⟩ := hrel
    by_cases hlt : k < s.size
    · have hck := (hK.out.cell k).trans (HR.out.cell k hlt)
      have hb1 : (byt s k) = ((s.data.toList.getD k 0).toNat : Int) := rfl
      rw [hb1] at hck
      have HT : Hid (_) := take_enc s k hlt
      generalize s.data.toList.getD k 0 = c at *
      have hel := enc_len (s.data.toList.take k)
      have htl : (s.data.toList.take k).length ≤ s.size := by rw [List.length_take, size_list]; omega
      have HL : Hid (_) := hel
      clear hel
      have hcn := c.toNat_lt
      have HFIN : Hid (∀ w', Bd (w.heap.size + 2) w.heap.size (Lib.byteCells (enc (s.data.toList.take k)) ++ Lib.byteCells (encB c)) w' → Fr (w.heap.size + 2) w.heap.size wr w' → Hid (Bd (w.heap.size + 2) w.heap.size (Lib.byteCells (enc (s.data.toList.take (k + 1)))) w') ∧ Hid (Keep (w.heap.size + 1) (Lib.bytesWorld (w.alloc (.cells #[.pointer none, .slice none 0 0] 92)) 5 s) w') ∧ Hid (Below w.heap.size w w') ∧ Hid (w.heap.size + 2 ≤ w'.heap.size)) := fun w' h1 h2 =>
        ⟨(by rw [HT.out, cells_app]; exact h1 : Bd _ _ _ _), hK.out.trans (h2.keep (by omega) (by omega)), hW.out.trans (h2.below (by omega) (Nat.le_refl _)), Nat.le_trans hS.out h2.size⟩
      cases hu : unr c with
      | true =>
        have he : encB c = [c] := by unfold encB; rw [if_pos hu]
        have hcl := cls_unr hu
        have HC : Hid (∀ w, Calls Tryz.prog 82 #[.int .u8 (c.toNat : Int)] w fun e w' => e = .returned (.int .u8 1) ∧ w' = w) := fun w => by rw [← hcl]; exact classOf_any c w
        rw [he, cells_one] at HFIN
        go_wp2_with (first | (go_at_call 82; refine (HC.out _).mono ?_; rintro e w1 ⟨rfl, rfl⟩) | (go_at_call 51; refine (WriteByte_bd _ _ _ _ _ hB.out (by rw [cells_len]; have := HL.out; omega) hS.out).mono ?_; rintro e w2 ⟨rfl, hB2, hF2⟩; obtain ⟨q1, q2, q3, q4⟩ := HFIN.out _ hB2 hF2))
        go_roundw
        case rel => exact ⟨k + 1, by omega, by go_num, q1, q2, q3, q4⟩
        case measure => simp [intOf]; omega
      | false =>
        have he : encB c = [37, hd (c.toNat / 16), hd (c.toNat % 16)] := by unfold encB; rw [if_neg (by simp [hu])]
        have hcl := cls_not hu
        have HC : Hid (∀ w, Calls Tryz.prog 82 #[.int .u8 (c.toNat : Int)] w fun e w' => e = .returned (.int .u8 (cls c)) ∧ w' = w) := fun w => classOf_any c w
        generalize cls c = v at *
        have e3 : Lib.byteCells (encB c) = [Value.int .u8 37, .int .u8 ((hd (c.toNat / 16)).toNat : Int), .int .u8 ((hd (c.toNat % 16)).toNat : Int)] := by rw [he]; rfl
        rw [e3] at HFIN
        go_wp2_with (first | (go_at_call 82; refine (HC.out _).mono ?_; rintro e w1 ⟨rfl, rfl⟩) | fail)
        refine (WriteByte_bd _ _ _ _ _ hB.out (by rw [cells_len]; have := HL.out; omega) hS.out).mono ?_
        rintro e w2 ⟨rfl, hB2, hF2⟩
        have HB2 : Hid (_) := hB2
        have HF2 : Hid (_) := hF2
        clear hB2 hF2
        go_wp2_with fail
        rw [digits_at (c.toNat / 16) (by omega)]
        refine (WriteByte_bd _ _ _ _ _ HB2.out (by rw [List.length_append, cells_len]; have := HL.out; simp; omega) (Nat.le_trans hS.out HF2.out.size)).mono ?_
        rintro e w3 ⟨rfl, hB3, hF3⟩
        have HB3 : Hid (_) := hB3
        have HF3 : Hid (_) := HF2.out.trans hF3
        clear hB3 hF3 HB2 HF2
        go_wp2_with fail
        rw [digits_at (c.toNat % 16) (by omega)]
        refine (WriteByte_bd _ _ _ _ _ HB3.out (by rw [List.length_append, List.length_append, cells_len]; have := HL.out; simp; omega) (Nat.le_trans hS.out HF3.out.size)).mono ?_
        rintro e w4 ⟨rfl, hB4, hF4⟩
        obtain ⟨q1, q2, q3, q4⟩ := HFIN.out _ (by simpa using hB4) (HF3.out.trans hF4)
        clear hB4 hF4
        go_wp2
        go_roundw
        case rel => exact ⟨k + 1, by omega, by go_num, q1, q2, q3, q4⟩
        case measure => simp [intOf]; omega
    · obtain rfl : k = s.size := by omega
      have hall : s.data.toList.take s.size = s.data.toList := List.take_of_length_le (by rw [size_list]; exact Nat.le_refl _)
      rw [hall] at hB
      clear hall
      go_wp2_with fail
      refine (String_bd _ _ _ _ hB.out hS.out).mono ?_
      rintro e w2 ⟨rfl, hb2, _⟩
      go_wp2
      go_ret
      exact ⟨rfl, hW.out.trans (hb2.mono (by omega))⟩

end Tg
end Go.Proofs.YtlnlhhobmgiceaaGreatDoor
