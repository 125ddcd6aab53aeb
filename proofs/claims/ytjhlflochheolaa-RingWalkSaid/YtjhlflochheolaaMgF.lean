/- Several texts as one. -/
import Derived.Test.YtjhlflochheolaaMgE
import Derived.Laws.CopyOwn
import Derived.RangeFuncNested
import Derived.RangeFuncBound
import Derived.RangeFuncCalls
import Derived.RangeFuncLeaves
import Derived.Shelf.Abstract
import Derived.Shelf.RegionOpen
import Derived.WalkKit
import Derived.OwnWalkIn
import Derived.TacticsInMore
import Derived.LoopNIn
import Derived.LoopIn
import Derived.Deep.RegionWith
/-
  The queue: list, a copy of what waits.
-/
set_option maxRecDepth 100000
set_option linter.unusedVariables false
set_option linter.unusedSimpArgs false
namespace Go.Proofs.Ytjhlflochheolaa
open Go.RowKit
namespace Rg

theorem flat_one {α : Type} (d : α) (cs : List α) (f : Nat → Nat) (count : Nat) (h : ∀ i, i < count → f i < cs.length) : ((List.range count).map fun i => (cs.drop (f i)).take 1).flatten = (List.range count).map fun i => cs.getD (f i) d := by
  induction count with
  | zero => rfl
  | succ k ih =>
    rw [List.range_succ, List.map_append, List.map_append, List.flatten_append, ih (fun i hi => h i (by omega))]
    congr 1
    have hk := h k (by omega)
    simp only [List.map_cons, List.map_nil, List.flatten_cons, List.flatten_nil, List.append_nil]
    rw [List.drop_eq_getElem_cons hk, List.getD_eq_getElem?_getD, List.getElem?_eq_getElem hk]
    rfl
theorem wait_flat {cap head count n : Nat} {cs : List Value} (hh : head < cap) (hn : n ≤ cap) (hc : count ≤ n) (hg : n < cap → head + count = n) (hl : cs.length = n) :
    (wait cap head count 1 cs).flatten = (cs.drop head).take (min (n - head) count) ++ cs.take (count - min (n - head) count) := by
  have hg' : cap ≤ n ∨ head + count = n := by
    by_cases c : n < cap
    · exact .inr (hg c)
    · exact .inl (by omega)
  clear hg
  have hp : ∀ i, i < count → pl cap head i * 1 < cs.length := by
    intro i hi
    unfold pl
    split <;> omega
  unfold wait
  rw [flat_one (.int .i64 0) cs (fun i => pl cap head i * 1) count hp]
  apply List.ext_getElem?
  intro i
  by_cases hi : i < count
  · have h1 := hp i hi
    rw [List.getElem?_map, List.getElem?_range hi, Option.map_some, List.getD_eq_getElem?_getD, List.getElem?_eq_getElem h1, Option.getD_some, ← List.getElem?_eq_getElem h1]
    rw [List.getElem?_append]
    by_cases c : i < min (n - head) count
    · rw [if_pos (by rw [List.length_take, List.length_drop]; omega), List.getElem?_take_of_lt c, List.getElem?_drop]
      congr 1
      unfold pl
      split
      · omega
      · omega
    · rw [if_neg (by rw [List.length_take, List.length_drop]; omega), List.length_take, List.length_drop, List.getElem?_take_of_lt (by omega)]
      congr 1
      unfold pl
      split
      · omega
      · omega
  · rw [List.getElem?_eq_none (by simp; omega), List.getElem?_eq_none (by simp; omega)]
theorem fill_two_v (z : Value) (n k : Nat) (p1 p2 : List Value) (h1 : p1.length = k) (h2 : k + p2.length = n) : splice (splice (List.replicate n z) 0 p1) k p2 = p1 ++ p2 := by
  subst h1
  subst h2
  unfold splice
  simp

theorem htL_I : Try.prog.underlying 59 = some (.slice (Try.prog.elem 59)) := by simp [Program.elem, Try.underlying59]
theorem sizeL_I : (Try.prog.info? 3).map (·.size) = some 1 := by kernel_rfl
theorem szL_I (w : World) : (sizeOf (Try.prog.elem 59)).run Try.prog w = .ok 1 w := by
  obtain ⟨i0, hi, hz0, hz1, hz2⟩ := info_parts infoQ_I
  have he : Try.prog.elem 59 = 3 := by simp [Program.elem, Try.underlying59]
  rw [he]
  simp [sizeOf, typeInfo, hi, hz1]
theorem cutL_I (w : World) (a : Option Addr) (n cap i : Nat) (hi : i ≤ n) (hc : n ≤ cap) : (Instr.slice 59 (.slice a n cap) (some (.int .i64 (i : Int))) none none).run Try.prog w = .ok (.slice (if cap = i then a else a.map (·.add (i * 1))) (n - i) (cap - i)) w := by
  rw [run_slice_l (P := Try.prog) w 59 a n cap htL_I .i64 (i : Int) (by omega) (by omega), szL_I]
  simp only [Result.andThen, Int.toNat_natCast]
  rfl
theorem run_mkL_I (W : World) (n : Nat) (hn : n ≤ 65536) : (Instr.makeSlice 59 (.int .i64 (n : Int)) (.int .i64 (n : Int))).run Try.prog W = .ok (.slice (some ⟨W.heap.size, 0, none⟩) n n) (W.alloc (.cells (List.replicate n (.int .i64 0 : Value)).toArray 3 (0, 0))) := by
  obtain ⟨i0, hi, hz0, hz1, hz2⟩ := info_parts infoQ_I
  have hr := run_make (P := Try.prog) W 59 3 i0 (.int .i64 0) Try.underlying59 hi hz0 .i64 .i64 (n : Int) (n : Int) (by omega) (Int.le_refl _) (by rw [hz2]; omega) (by omega)
  simp only [Int.toNat_natCast, hz1] at hr
  rw [hr]
  congr 3
  apply Array.toList_inj.1
  show (madeCells #[(.int .i64 0 : Value)] (n * 1)).toList = _
  rw [toList_madeCells_one, Nat.mul_one]

set_option maxHeartbeats 4000000 in
theorem qList_I {w : World} {p : Option Addr} {bs : List Nat} {cap : Nat} {xs : List (List Value)} (HQ : QP w 3 1 92 p bs cap xs) (h1 : ∀ u ∈ xs.flatten, Value.oneCell' u = true) : Calls Try.prog 48 #[.pointer p] w fun e w' => ∃ v, e = .returned v ∧ w'.ownsRow w.heap.size 3 1 v xs.length xs.flatten ∧ Below w.heap.size w w' := by
  have HQ' : Hid (QP w 3 1 92 p bs cap xs) := HQ
  by_cases hx : xs = []
  · subst hx
    clear HQ
    go_enter Try.func48, Try.ntmps48
    go_wp2_with fail
    refine (qLen_I HQ'.out).mono ?_
    rintro e w1 ⟨rfl, hb⟩
    have HB : Hid (Below w.heap.size w w1) := hb
    clear hb
    go_wp2
    go_ret
    exact ⟨_, rfl, World.ownsRow_nil _ _ _ _, HB.out⟩
  have H1 : Hid (∀ u ∈ xs.flatten, Value.oneCell' u = true) := h1
  clear h1
  rcases HQ with ⟨_, _, _, e⟩ | ⟨qp, sv, head, n, cs, rfl, hbs, H, hxs⟩
  · exact absurd e hx
  clear hbs
  have hk : 1 ≤ xs.length := by
    cases xs with
    | nil => exact absurd rfl hx
    | cons a b => simp
  clear hx
  have hle := H.hc
  obtain ⟨g, c, rfl⟩ : ∃ g c, sv = .slice (some ⟨g, 0, none⟩) n c := by
    rcases H.own.2 with ⟨_, e⟩ | ⟨g, c, _, e, _⟩
    · omega
    · exact ⟨g, c, e⟩
  have hmn : n ≤ c := by
    rcases H.own.2 with ⟨e, _⟩ | ⟨g', c', _, e, _, _, h, _⟩
    · cases e
    · injection e with _ _ e3
      omega
  have hcl : cs.length = n := by have := H.own.1; omega
  have HF : Hid (xs.flatten = _) := (congrArg List.flatten hxs).trans (wait_flat H.hh H.hn H.hc H.grow hcl)
  have hhn : head < n := by
    have h1 := H.hh
    have h2 := H.hn
    by_cases c : n < cap
    · have := H.grow c
      omega
    · omega
  have hn6 : n ≤ 65536 := Nat.le_trans H.hn H.cap2
  have HH : Hid (IsQ w 3 1 92 qp (.slice (some ⟨g, 0, none⟩) n c) cap head xs.length n cs) := H
  clear H hxs
  obtain ⟨K, hK⟩ : ∃ K, K = xs.length := ⟨_, rfl⟩
  obtain ⟨k1, hk1⟩ : ∃ k1, k1 = min (n - head) K := ⟨_, rfl⟩
  rw [← hK] at HF hk hle HH
  rw [← hk1] at HF
  have HK : Hid (K = xs.length) := hK
  have hk1a : k1 ≤ K := by omega
  have hk1b : k1 ≤ n - head := by omega
  have HK1 : Hid (k1 = min (n - head) K) := hk1
  obtain ⟨X1, hX1⟩ : ∃ X1, X1 = (cs.drop head).take k1 := ⟨_, rfl⟩
  obtain ⟨X2, hX2⟩ : ∃ X2, X2 = cs.take (K - k1) := ⟨_, rfl⟩
  have l1 : X1.length = k1 := by rw [hX1, List.length_take, List.length_drop]; omega
  have l2 : X2.length = K - k1 := by rw [hX2, List.length_take]; omega
  rw [← hX1, ← hX2] at HF
  have HC1 : Hid (∀ j v, X1[j]? = some v → w.cell? ⟨g, head + j, none⟩ = some v) := (fun j v hj => by
    have hj1 := (List.getElem?_eq_some_iff.1 hj).1
    rw [HH.out.own.cellAt _ (by omega)]
    rw [hX1, List.getElem?_take_of_lt (by omega), List.getElem?_drop] at hj
    exact hj)
  have HC2 : Hid (∀ j v, X2[j]? = some v → w.cell? ⟨g, j, none⟩ = some v) := (fun j v hj => by
    have hj1 := (List.getElem?_eq_some_iff.1 hj).1
    rw [HH.out.own.cellAt _ (by omega)]
    rw [hX2, List.getElem?_take_of_lt (by omega)] at hj
    exact hj)
  have O1 : Hid (∀ v ∈ X1, Value.oneCell' v = true) := (fun v hv => H1.out v (by rw [HF.out]; exact List.mem_append_left _ hv))
  have O2 : Hid (∀ v ∈ X2, Value.oneCell' v = true) := (fun v hv => H1.out v (by rw [HF.out]; exact List.mem_append_right _ hv))
  have hgw : g < w.heap.size := (HH.out.own.lt g rfl).2
  have hqw : qp < w.heap.size := (Array.getElem?_eq_some_iff.1 HH.out.str).1
  clear hX1 hX2 hk1 hK
  go_enter Try.func48, Try.ntmps48
  go_wp2_with fail
  refine (qLen_I HQ'.out).mono ?_
  rintro e w1 ⟨rfl, hb⟩
  rw [← HK.out]
  have HB1 : Hid (Below w.heap.size w w1) := hb
  clear hb HQ'
  obtain ⟨c0, c1, c2, c3, cf⟩ := row4q (HH.out.below HB1.out).str
  have hne : ((K : Int) == 0) = false := by simp; omega
  have hmk := run_mkL_I w1 K (by omega)
  obtain ⟨w2, hw2⟩ : ∃ w2, w2 = w1.alloc (.cells (List.replicate K (.int .i64 0 : Value)).toArray 3 (0, 0)) := ⟨_, rfl⟩
  rw [← hw2] at hmk
  have HG2 : Hid (w2.heap[w1.heap.size]? = some (.cells (List.replicate K (.int .i64 0 : Value)).toArray 3 (0, 0))) := (by rw [hw2]; exact heap_alloc_new _ _ : w2.heap[w1.heap.size]? = _)
  have HB2 : Hid (Below w.heap.size w w2) := (by rw [hw2]; exact HB1.out.alloc HB1.out.size _ : Below w.heap.size w w2)
  have hg1 : w.heap.size ≤ w1.heap.size := HB1.out.size
  clear hw2
  generalize w1.heap.size = vb at *
  have e1 : ∀ W : World, (Instr.slice 59 (.slice (some ⟨g, 0, none⟩) n c) (some (.int .i64 (head : Int))) none none).run Try.prog W = .ok (.slice (some ⟨g, head, none⟩) (n - head) (c - head)) W := fun W => by
    rw [cutL_I W _ _ _ _ (by omega) hmn, if_neg (by omega)]
    simp [Addr.add]
    try omega
  obtain ⟨a3, ha3, e2⟩ : ∃ a3, (0 < K - k1 → a3 = some ⟨vb, k1, none⟩) ∧ ∀ W : World, (Instr.slice 59 (.slice (some ⟨vb, 0, none⟩) K K) (some (.int .i64 (k1 : Int))) none none).run Try.prog W = .ok (.slice a3 (K - k1) (K - k1)) W := by
    refine ⟨_, ?_, fun W => cutL_I W _ _ _ _ hk1a (Nat.le_refl _)⟩
    intro h
    rw [if_neg (by omega)]
    simp [Addr.add]
    try omega
  have HA3 : Hid (0 < K - k1 → a3 = some ⟨vb, k1, none⟩) := ha3
  clear ha3
  go_wp2_with fail
  have HD2 : Hid (Below w.heap.size w w2.drew) := HB2.out.drew
  have d0 : w2.drew.cell? ⟨qp, 0, none⟩ = some (.slice (some ⟨g, 0, none⟩) n c) := (But.of_below HD2.out).cell (row4q HH.out.str).1 (fun e => by cases e)
  have d2 : w2.drew.cell? ⟨qp, 2, none⟩ = some (.int .i64 (head : Int)) := (But.of_below HD2.out).cell (row4q HH.out.str).2.2.1 (fun e => by cases e)
  clear c0 c1 c2 c3 cf hmk
  go_region_law (refine step_copy_splice rfl (.tmp 13) (.tmp 22) 59 59 rfl 3 Try.underlying59 sizeL_I (some ⟨vb, 0, none⟩) (some ⟨g, head, none⟩) K K (n - head) (c - head) (by simp [Act.eval, Act.put]) (by simp [Act.eval, Act.put]) vb 0 (List.replicate K (.int .i64 0 : Value)) 3 HG2.out X1 (by rw [l1]; exact HK1.out) (fun _ => ⟨rfl, _, rfl, fun j v hj => (But.of_below HD2.out).cell (by rw [Addr.add_lit]; exact HC1.out j v hj) (fun e => by cases e)⟩) (by simp [l1]; omega) O1.out w.heap.size w HD2.out hg1 ?_; intro w4 HG4 HB4)
  all_goals
    have HB4' : Hid (Below w.heap.size w w4) := HB4
    have HD4 : Hid (Below w.heap.size w w4.drew) := HB4.drew
    have m0 : w4.drew.cell? ⟨qp, 0, none⟩ = some (.slice (some ⟨g, 0, none⟩) n c) := (But.of_below HD4.out).cell (row4q HH.out.str).1 (fun e => by cases e)
    have l3 : (splice (List.replicate K (.int .i64 0 : Value)) 0 X1).length = K := by rw [length_splice _ _ _ (by simp [l1]; omega)]; simp
    clear d0 d2 HB4
    go_simp
    go_wp2_with fail
    go_region_law (refine step_copy_splice rfl (.tmp 26) (.tmp 30) 59 59 rfl 3 Try.underlying59 sizeL_I a3 (some ⟨g, 0, none⟩) (K - k1) (K - k1) n c (by simp [Act.eval, Act.put]) (by simp [Act.eval, Act.put]) vb k1 (splice (List.replicate K (.int .i64 0 : Value)) 0 X1) 3 HG4.out X2 (by rw [l2]; exact (Nat.min_eq_right (by omega)).symm) (fun h => ⟨HA3.out (by omega), _, rfl, fun j v hj => (But.of_below HD4.out).cell (by rw [Addr.add_lit, Nat.zero_add]; exact HC2.out j v hj) (fun e => by cases e)⟩) (by rw [l3, l2]; omega) O2.out w.heap.size w HD4.out hg1 ?_; intro w6 HG6 HB6)
    all_goals
      have HB6' : Hid (Below w.heap.size w w6) := HB6
      clear HB6 m0
      go_simp
      go_wp2
      go_ret
      have hfin := HG6.out
      rw [fill_two_v _ K k1 X1 X2 l1 (by omega), ← HF.out] at hfin
      have hfl : xs.flatten.length = K := by rw [HF.out, List.length_append]; omega
      refine ⟨.slice (some ⟨vb, 0, none⟩) K K, rfl, ⟨by rw [hfl, ← HK.out, Nat.mul_one], .inr ⟨vb, K, _, by rw [← HK.out], hg1, hfin, by rw [← HK.out]; exact Nat.le_refl _, by unfold maxLen; omega, by simp [hfl], by rw [← HK.out, Nat.mul_one]; exact List.take_of_length_le (by simp [hfl])⟩⟩, HB6'.out⟩

theorem htL_S : Try.prog.underlying 50 = some (.slice (Try.prog.elem 50)) := by simp [Program.elem, Try.underlying50]
theorem sizeL_S : (Try.prog.info? 9).map (·.size) = some 1 := by kernel_rfl
theorem szL_S (w : World) : (sizeOf (Try.prog.elem 50)).run Try.prog w = .ok 1 w := by
  obtain ⟨i0, hi, hz0, hz1, hz2⟩ := info_parts infoQ_S
  have he : Try.prog.elem 50 = 9 := by simp [Program.elem, Try.underlying50]
  rw [he]
  simp [sizeOf, typeInfo, hi, hz1]
theorem cutL_S (w : World) (a : Option Addr) (n cap i : Nat) (hi : i ≤ n) (hc : n ≤ cap) : (Instr.slice 50 (.slice a n cap) (some (.int .i64 (i : Int))) none none).run Try.prog w = .ok (.slice (if cap = i then a else a.map (·.add (i * 1))) (n - i) (cap - i)) w := by
  rw [run_slice_l (P := Try.prog) w 50 a n cap htL_S .i64 (i : Int) (by omega) (by omega), szL_S]
  simp only [Result.andThen, Int.toNat_natCast]
  rfl
theorem run_mkL_S (W : World) (n : Nat) (hn : n ≤ 65536) : (Instr.makeSlice 50 (.int .i64 (n : Int)) (.int .i64 (n : Int))).run Try.prog W = .ok (.slice (some ⟨W.heap.size, 0, none⟩) n n) (W.alloc (.cells (List.replicate n (.string ⟨#[]⟩ : Value)).toArray 9 (0, 0))) := by
  obtain ⟨i0, hi, hz0, hz1, hz2⟩ := info_parts infoQ_S
  have hr := run_make (P := Try.prog) W 50 9 i0 (.string ⟨#[]⟩) Try.underlying50 hi hz0 .i64 .i64 (n : Int) (n : Int) (by omega) (Int.le_refl _) (by rw [hz2]; omega) (by omega)
  simp only [Int.toNat_natCast, hz1] at hr
  rw [hr]
  congr 3
  apply Array.toList_inj.1
  show (madeCells #[(.string ⟨#[]⟩ : Value)] (n * 1)).toList = _
  rw [toList_madeCells_one, Nat.mul_one]

set_option maxHeartbeats 4000000 in
theorem qList_S {w : World} {p : Option Addr} {bs : List Nat} {cap : Nat} {xs : List (List Value)} (HQ : QP w 9 1 87 p bs cap xs) (h1 : ∀ u ∈ xs.flatten, Value.oneCell' u = true) : Calls Try.prog 55 #[.pointer p] w fun e w' => ∃ v, e = .returned v ∧ w'.ownsRow w.heap.size 9 1 v xs.length xs.flatten ∧ Below w.heap.size w w' := by
  have HQ' : Hid (QP w 9 1 87 p bs cap xs) := HQ
  by_cases hx : xs = []
  · subst hx
    clear HQ
    go_enter Try.func55, Try.ntmps55
    go_wp2_with fail
    refine (qLen_S HQ'.out).mono ?_
    rintro e w1 ⟨rfl, hb⟩
    have HB : Hid (Below w.heap.size w w1) := hb
    clear hb
    go_wp2
    go_ret
    exact ⟨_, rfl, World.ownsRow_nil _ _ _ _, HB.out⟩
  have H1 : Hid (∀ u ∈ xs.flatten, Value.oneCell' u = true) := h1
  clear h1
  rcases HQ with ⟨_, _, _, e⟩ | ⟨qp, sv, head, n, cs, rfl, hbs, H, hxs⟩
  · exact absurd e hx
  clear hbs
  have hk : 1 ≤ xs.length := by
    cases xs with
    | nil => exact absurd rfl hx
    | cons a b => simp
  clear hx
  have hle := H.hc
  obtain ⟨g, c, rfl⟩ : ∃ g c, sv = .slice (some ⟨g, 0, none⟩) n c := by
    rcases H.own.2 with ⟨_, e⟩ | ⟨g, c, _, e, _⟩
    · omega
    · exact ⟨g, c, e⟩
  have hmn : n ≤ c := by
    rcases H.own.2 with ⟨e, _⟩ | ⟨g', c', _, e, _, _, h, _⟩
    · cases e
    · injection e with _ _ e3
      omega
  have hcl : cs.length = n := by have := H.own.1; omega
  have HF : Hid (xs.flatten = _) := (congrArg List.flatten hxs).trans (wait_flat H.hh H.hn H.hc H.grow hcl)
  have hhn : head < n := by
    have h1 := H.hh
    have h2 := H.hn
    by_cases c : n < cap
    · have := H.grow c
      omega
    · omega
  have hn6 : n ≤ 65536 := Nat.le_trans H.hn H.cap2
  have HH : Hid (IsQ w 9 1 87 qp (.slice (some ⟨g, 0, none⟩) n c) cap head xs.length n cs) := H
  clear H hxs
  obtain ⟨K, hK⟩ : ∃ K, K = xs.length := ⟨_, rfl⟩
  obtain ⟨k1, hk1⟩ : ∃ k1, k1 = min (n - head) K := ⟨_, rfl⟩
  rw [← hK] at HF hk hle HH
  rw [← hk1] at HF
  have HK : Hid (K = xs.length) := hK
  have hk1a : k1 ≤ K := by omega
  have hk1b : k1 ≤ n - head := by omega
  have HK1 : Hid (k1 = min (n - head) K) := hk1
  obtain ⟨X1, hX1⟩ : ∃ X1, X1 = (cs.drop head).take k1 := ⟨_, rfl⟩
  obtain ⟨X2, hX2⟩ : ∃ X2, X2 = cs.take (K - k1) := ⟨_, rfl⟩
  have l1 : X1.length = k1 := by rw [hX1, List.length_take, List.length_drop]; omega
  have l2 : X2.length = K - k1 := by rw [hX2, List.length_take]; omega
  rw [← hX1, ← hX2] at HF
  have HC1 : Hid (∀ j v, X1[j]? = some v → w.cell? ⟨g, head + j, none⟩ = some v) := (fun j v hj => by
    have hj1 := (List.getElem?_eq_some_iff.1 hj).1
    rw [HH.out.own.cellAt _ (by omega)]
    rw [hX1, List.getElem?_take_of_lt (by omega), List.getElem?_drop] at hj
    exact hj)
  have HC2 : Hid (∀ j v, X2[j]? = some v → w.cell? ⟨g, j, none⟩ = some v) := (fun j v hj => by
    have hj1 := (List.getElem?_eq_some_iff.1 hj).1
    rw [HH.out.own.cellAt _ (by omega)]
    rw [hX2, List.getElem?_take_of_lt (by omega)] at hj
    exact hj)
  have O1 : Hid (∀ v ∈ X1, Value.oneCell' v = true) := (fun v hv => H1.out v (by rw [HF.out]; exact List.mem_append_left _ hv))
  have O2 : Hid (∀ v ∈ X2, Value.oneCell' v = true) := (fun v hv => H1.out v (by rw [HF.out]; exact List.mem_append_right _ hv))
  have hgw : g < w.heap.size := (HH.out.own.lt g rfl).2
  have hqw : qp < w.heap.size := (Array.getElem?_eq_some_iff.1 HH.out.str).1
  clear hX1 hX2 hk1 hK
  go_enter Try.func55, Try.ntmps55
  go_wp2_with fail
  refine (qLen_S HQ'.out).mono ?_
  rintro e w1 ⟨rfl, hb⟩
  rw [← HK.out]
  have HB1 : Hid (Below w.heap.size w w1) := hb
  clear hb HQ'
  obtain ⟨c0, c1, c2, c3, cf⟩ := row4q (HH.out.below HB1.out).str
  have hne : ((K : Int) == 0) = false := by simp; omega
  have hmk := run_mkL_S w1 K (by omega)
  obtain ⟨w2, hw2⟩ : ∃ w2, w2 = w1.alloc (.cells (List.replicate K (.string ⟨#[]⟩ : Value)).toArray 9 (0, 0)) := ⟨_, rfl⟩
  rw [← hw2] at hmk
  have HG2 : Hid (w2.heap[w1.heap.size]? = some (.cells (List.replicate K (.string ⟨#[]⟩ : Value)).toArray 9 (0, 0))) := (by rw [hw2]; exact heap_alloc_new _ _ : w2.heap[w1.heap.size]? = _)
  have HB2 : Hid (Below w.heap.size w w2) := (by rw [hw2]; exact HB1.out.alloc HB1.out.size _ : Below w.heap.size w w2)
  have hg1 : w.heap.size ≤ w1.heap.size := HB1.out.size
  clear hw2
  generalize w1.heap.size = vb at *
  have e1 : ∀ W : World, (Instr.slice 50 (.slice (some ⟨g, 0, none⟩) n c) (some (.int .i64 (head : Int))) none none).run Try.prog W = .ok (.slice (some ⟨g, head, none⟩) (n - head) (c - head)) W := fun W => by
    rw [cutL_S W _ _ _ _ (by omega) hmn, if_neg (by omega)]
    simp [Addr.add]
    try omega
  obtain ⟨a3, ha3, e2⟩ : ∃ a3, (0 < K - k1 → a3 = some ⟨vb, k1, none⟩) ∧ ∀ W : World, (Instr.slice 50 (.slice (some ⟨vb, 0, none⟩) K K) (some (.int .i64 (k1 : Int))) none none).run Try.prog W = .ok (.slice a3 (K - k1) (K - k1)) W := by
    refine ⟨_, ?_, fun W => cutL_S W _ _ _ _ hk1a (Nat.le_refl _)⟩
    intro h
    rw [if_neg (by omega)]
    simp [Addr.add]
    try omega
  have HA3 : Hid (0 < K - k1 → a3 = some ⟨vb, k1, none⟩) := ha3
  clear ha3
  go_wp2_with fail
  have HD2 : Hid (Below w.heap.size w w2.drew) := HB2.out.drew
  have d0 : w2.drew.cell? ⟨qp, 0, none⟩ = some (.slice (some ⟨g, 0, none⟩) n c) := (But.of_below HD2.out).cell (row4q HH.out.str).1 (fun e => by cases e)
  have d2 : w2.drew.cell? ⟨qp, 2, none⟩ = some (.int .i64 (head : Int)) := (But.of_below HD2.out).cell (row4q HH.out.str).2.2.1 (fun e => by cases e)
  clear c0 c1 c2 c3 cf hmk
  go_region_law (refine step_copy_splice rfl (.tmp 13) (.tmp 22) 50 50 rfl 9 Try.underlying50 sizeL_S (some ⟨vb, 0, none⟩) (some ⟨g, head, none⟩) K K (n - head) (c - head) (by simp [Act.eval, Act.put]) (by simp [Act.eval, Act.put]) vb 0 (List.replicate K (.string ⟨#[]⟩ : Value)) 9 HG2.out X1 (by rw [l1]; exact HK1.out) (fun _ => ⟨rfl, _, rfl, fun j v hj => (But.of_below HD2.out).cell (by rw [Addr.add_lit]; exact HC1.out j v hj) (fun e => by cases e)⟩) (by simp [l1]; omega) O1.out w.heap.size w HD2.out hg1 ?_; intro w4 HG4 HB4)
  all_goals
    have HB4' : Hid (Below w.heap.size w w4) := HB4
    have HD4 : Hid (Below w.heap.size w w4.drew) := HB4.drew
    have m0 : w4.drew.cell? ⟨qp, 0, none⟩ = some (.slice (some ⟨g, 0, none⟩) n c) := (But.of_below HD4.out).cell (row4q HH.out.str).1 (fun e => by cases e)
    have l3 : (splice (List.replicate K (.string ⟨#[]⟩ : Value)) 0 X1).length = K := by rw [length_splice _ _ _ (by simp [l1]; omega)]; simp
    clear d0 d2 HB4
    go_simp
    go_wp2_with fail
    go_region_law (refine step_copy_splice rfl (.tmp 26) (.tmp 30) 50 50 rfl 9 Try.underlying50 sizeL_S a3 (some ⟨g, 0, none⟩) (K - k1) (K - k1) n c (by simp [Act.eval, Act.put]) (by simp [Act.eval, Act.put]) vb k1 (splice (List.replicate K (.string ⟨#[]⟩ : Value)) 0 X1) 9 HG4.out X2 (by rw [l2]; exact (Nat.min_eq_right (by omega)).symm) (fun h => ⟨HA3.out (by omega), _, rfl, fun j v hj => (But.of_below HD4.out).cell (by rw [Addr.add_lit, Nat.zero_add]; exact HC2.out j v hj) (fun e => by cases e)⟩) (by rw [l3, l2]; omega) O2.out w.heap.size w HD4.out hg1 ?_; intro w6 HG6 HB6)
    all_goals
      have HB6' : Hid (Below w.heap.size w w6) := HB6
      clear HB6 m0
      go_simp
      go_wp2
      go_ret
      have hfin := HG6.out
      rw [fill_two_v _ K k1 X1 X2 l1 (by omega), ← HF.out] at hfin
      have hfl : xs.flatten.length = K := by rw [HF.out, List.length_append]; omega
      refine ⟨.slice (some ⟨vb, 0, none⟩) K K, rfl, ⟨by rw [hfl, ← HK.out, Nat.mul_one], .inr ⟨vb, K, _, by rw [← HK.out], hg1, hfin, by rw [← HK.out]; exact Nat.le_refl _, by unfold maxLen; omega, by simp [hfl], by rw [← HK.out, Nat.mul_one]; exact List.take_of_length_le (by simp [hfl])⟩⟩, HB6'.out⟩

end Rg
end Go.Proofs.Ytjhlflochheolaa

/-
  The queue: All, and the function that it gives.
-/
set_option linter.unusedVariables false
set_option linter.unusedSimpArgs false
namespace Go.Proofs.Ytjhlflochheolaa
open Go.RowKit Go.Shelf
attribute [local go_sem] Oper.semAt_some
namespace Rg

/-- A block lies as it lay. -/
def Keep (b : Nat) (A B : World) : Prop := B.heap[b]? = A.heap[b]?
theorem Keep.refl (b : Nat) (A : World) : Keep b A A := rfl
theorem Keep.trans {b : Nat} {A B C : World} (h : Keep b A B) (k : Keep b B C) : Keep b A C := Eq.trans k h
theorem Keep.cell {b : Nat} {A B : World} (h : Keep b A B) (i : Nat) : B.cell? ⟨b, i, none⟩ = A.cell? ⟨b, i, none⟩ := World.cell?_of_block (w := A) (w' := B) (a := ⟨b, i, none⟩) h
theorem Keep.below {b n : Nat} {A B : World} (h : Below n A B) (hb : b < n) : Keep b A B := h.block b hb
theorem keepK_t {b : Nat} {A B C : World} (h : Keep b A B) (k : Keep b B C) : Keep b A C := h.trans k
theorem keepK_b {b : Nat} {w : World} (hb : b < w.heap.size) (W : World) (l : Nat) (o o' : Obj) (hl : w.heap.size ≤ l) (h : W.heap[l]? = some o) (hc : o.isCells = false) (hw : o.isWalk = false) : Keep b W (W.putObj l o') :=
  (belowK_b (w := w) (Nat.le_refl _) W l o o' hl h hc hw).block b hb
def upto {α : Type} (f : Nat → α) (k : Nat) : List α := (List.range k).map f
theorem upto_succ {α : Type} (f : Nat → α) (k : Nat) : upto f (k + 1) = upto f k ++ [f k] := by simp [upto, List.range_succ]
theorem flat_map {α : Type} (f : α → Value) (zs : List α) : (zs.map fun z => [f z]).flatten = zs.map fun z => f z := by
  induction zs with
  | nil => rfl
  | cons a t ih => rw [List.map_cons, List.flatten_cons, ih]; rfl
theorem upto_length {α : Type} (f : Nat → α) (k : Nat) : (upto f k).length = k := by simp [upto]

/-- The slice's cells hold zs, in a block below n₀; or there is none. -/
def Lies_I (b : Nat) (W : World) (sv : Value) (zs : List Int) : Prop :=
  (sv = .slice none 0 0 ∧ zs = []) ∨ ∃ off cap, sv = .slice (some ⟨b, off, none⟩) zs.length cap ∧ ∀ j, j < zs.length → W.cell? ⟨b, off + j, none⟩ = some (.int .i64 (zs[j]?.getD 0))
theorem Lies_I.keep {b : Nat} {A B : World} (h : Keep b A B) {sv : Value} {zs : List Int} : Lies_I b A sv zs → Lies_I b B sv zs
  | .inl e => .inl e
  | .inr ⟨off, cap, e, hc⟩ => .inr ⟨off, cap, e, fun j hj => (h.cell _).trans (hc j hj)⟩

set_option maxRecDepth 100000 in
set_option maxHeartbeats 2000000 in
theorem all1_in_I (F : Fence) (n : Nat) (h8 : F.fn 49) (hro : F.round = none) (hn : 1 ≤ n) (l Bs b off len cap : Nat) (zs : List Int) (hreach : len * 8 ≤ 140737488351232) (J Jx : List (Nat × Int) → World → Prop)
    (hY : ∀ pre x W, J pre W → pre.length < len → YieldAt F (n - 1) Try.prog l #[.int .i64 (x.1 : Int), .int .i64 (x.2)] W fun e W' =>
      (e = .returned (.bool true) ∧ J (pre ++ [x]) W' ∧ Keep b W W') ∨ (e = .returned (.bool false) ∧ Jx (pre ++ [x]) W'))
    (W : World) (hBs : W.cell? ⟨Bs, 0, none⟩ = some (.slice (some ⟨b, off, none⟩) len cap)) (hc : ∀ j, j < len → W.cell? ⟨b, off + j, none⟩ = some (.int .i64 (zs[j]?.getD 0))) (h0 : J [] W) :
    CallsIn F n Try.prog 49 #[.func (.yield l) #[] #[], .pointer (some ⟨Bs, 0, none⟩)] W fun e W' => (∃ v, e = .returned v) ∧
      ((∃ ys, ys = upto (fun j => (j, zs[j]?.getD 0)) len ∧ J ys W') ∨ (∃ pre, (∃ k, k ≤ len ∧ pre = upto (fun j => (j, zs[j]?.getD 0)) k) ∧ Jx pre W')) := by
  refine callsIn_of_wp Try.func49 rfl h8 ?_ hro
  simp only [Try.ntmps49, List.size_toArray, List.length_cons, List.length_nil, Nat.reduceAdd, Nat.reduceSub, Array.replicate_succ, Array.replicate_zero, List.push_toArray, List.append_toArray, List.nil_append, List.cons_append]
  gi_wp2
  gi_loopw [7] (fun i wr => ∃ k : Nat, k ≤ len ∧ i = .int .i64 k ∧ J (upto (fun j => (j, zs[j]?.getD 0)) k) wr ∧ Keep b W wr)
    (fun i _ => len - (intOf i).toNat)
  case atStart => exact ⟨0, Nat.zero_le _, rfl, h0, Keep.refl _ _⟩
  case round =>
    obtain ⟨k, hk, rfl, hJs, hnx⟩ := hrel
    have hcx : k < len → wr.cell? ⟨b, off + k, none⟩ = some (.int .i64 (zs[k]?.getD 0)) := fun h => (hnx.cell _).trans (hc k h)
    by_cases hlt : k < len
    · obtain ⟨fn, tmps, assign, body, hy, hR⟩ := hY _ (k, zs[k]?.getD 0) wr hJs (by rw [upto_length]; exact hlt)
      dsimp only at hy
      have hcx' := hcx hlt
      gi_wp2
      refine hR.mono ?_
      rintro e W3 (⟨rfl, hJ3, hk3⟩ | ⟨rfl, hJx3⟩)
      · gi_wp2
        go_roundw
        case rel => exact ⟨k + 1, by omega, by simp, by rw [upto_succ]; exact hJ3, hnx.trans hk3⟩
        case measure => simp [intOf]; omega
      · gi_wp2
        refine bodyPost_ret (results_none rfl _ _ _) rfl ?_
        exact ⟨⟨_, rfl⟩, .inr ⟨_, ⟨k + 1, by omega, (upto_succ _ _).symm⟩, hJx3⟩⟩
    · obtain rfl : k = len := by omega
      gi_wp2
      go_end0
      exact ⟨⟨_, rfl⟩, .inl ⟨_, rfl, hJs⟩⟩

set_option maxRecDepth 100000 in
set_option maxHeartbeats 1000000 in
theorem all1_nil_in_I (F : Fence) (n : Nat) (h8 : F.fn 49) (hro : F.round = none) (l Bs : Nat) (J : List (Nat × Int) → World → Prop) (W : World) (hBs : W.cell? ⟨Bs, 0, none⟩ = some (.slice none 0 0)) (h0 : J [] W) :
    CallsIn F n Try.prog 49 #[.func (.yield l) #[] #[], .pointer (some ⟨Bs, 0, none⟩)] W fun e W' => (∃ v, e = .returned v) ∧ J [] W' := by
  refine callsIn_of_wp Try.func49 rfl h8 ?_ hro
  simp only [Try.ntmps49, List.size_toArray, List.length_cons, List.length_nil, Nat.reduceAdd, Nat.reduceSub, Array.replicate_succ, Array.replicate_zero, List.push_toArray, List.append_toArray, List.nil_append, List.cons_append]
  gi_wp2
  gi_loopw [7] (fun i wr => i = .int .i64 0 ∧ J [] wr) (fun _ _ => 0)
  case atStart => exact ⟨rfl, h0⟩
  case round =>
    obtain ⟨rfl, hJs⟩ := hrel
    gi_wp2
    go_end0
    exact ⟨⟨_, rfl⟩, hJs⟩

theorem all_stops_I (F : Fence) (n : Nat) (h8 : F.fn 49) (hro : F.round = none) (hn : 1 ≤ n) (Bs b : Nat) (sv : Value) (zs : List Int) (hreach : zs.length * 8 ≤ 140737488351232) (w : World) (hBs : Bs < w.heap.size) (hb : b < w.heap.size)
    (hc : w.cell? ⟨Bs, 0, none⟩ = some sv) (hI : Lies_I b w sv zs) :
    SeqStopsK F n Try.prog 49 #[.pointer (some ⟨Bs, 0, none⟩)] (fun x : Nat × Int => #[Value.int .i64 (x.1 : Int), Value.int .i64 (x.2)]) (Keep b) (fun ys => ys = upto (fun j => (j, zs[j]?.getD 0)) zs.length)
      (fun pre => ∃ k, k ≤ zs.length ∧ pre = upto (fun j => (j, zs[j]?.getD 0)) k) zs.length w := fun l J Jx W hW _ _ hY h0 => by
  have hc' := (hW.cell (p := ⟨Bs, 0, none⟩) hBs).trans hc
  rcases hI.keep (Keep.below hW hb) with ⟨rfl, rfl⟩ | ⟨off, cap, rfl, hcs⟩
  · exact (all1_nil_in_I F n h8 hro l Bs J W hc' h0).mono fun e W' ⟨he, hj⟩ => ⟨he, .inl ⟨_, rfl, hj⟩⟩
  · exact all1_in_I F n h8 hro hn l Bs b off zs.length cap zs hreach J Jx hY W hc' hcs h0

set_option maxRecDepth 100000 in
set_option maxHeartbeats 2000000 in
theorem qAll_I {w : World} {p : Option Addr} {bs : List Nat} {cap : Nat} (zs : List Int) (HQ : QP w 3 1 92 p bs cap (zs.map fun z => [Value.int .i64 (z)])) : Calls Try.prog 29 #[.pointer p] w fun e w' => ∃ Bs b sv, e = .returned (.func (.func 49) #[] #[.pointer (some ⟨Bs, 0, none⟩)]) ∧ w.heap.size ≤ Bs ∧ Bs < w'.heap.size ∧ w'.cell? ⟨Bs, 0, none⟩ = some sv ∧ w.heap.size ≤ b ∧ b < w'.heap.size ∧ Lies_I b w' sv zs ∧ Below w.heap.size w w' := by
  have hfl : (zs.map fun z => [Value.int .i64 (z)]).flatten = zs.map fun z => Value.int .i64 (z) := flat_map _ zs
  have HFL : Hid (_ = _) := hfl
  have HL := qList_I HQ (by rw [hfl]; intro u hu; obtain ⟨z, _, rfl⟩ := List.mem_map.1 hu; rfl)
  clear hfl
  have HH : Hid (Calls _ _ _ _ _) := HL
  clear HL HQ
  go_enter Try.func29, Try.ntmps29
  go_wp2_with fail
  refine HH.out.mono ?_
  rintro e w1 ⟨v, rfl, ho, hb⟩
  rw [HFL.out, List.length_map] at ho
  have HO : Hid (w1.ownsRow w.heap.size 3 1 v zs.length (zs.map fun z => Value.int .i64 (z))) := ho
  obtain ⟨a, c, rfl⟩ : ∃ a c, v = .slice a zs.length c := by
    rcases ho.2 with ⟨rfl, e⟩ | ⟨g, c, _, rfl, _⟩
    · exact ⟨none, 0, by rw [e]⟩
    · exact ⟨_, c, rfl⟩
  have HB : Hid (Below w.heap.size w w1) := hb
  clear ho hb HH HFL
  generalize hzl : zs.length = N at *
  go_wp2
  go_ret
  have hrow := heap_alloc_new w1 (Obj.cells #[Value.slice a N c] 59)
  have hbel : Below w1.heap.size w1 (w1.alloc (Obj.cells #[Value.slice a N c] 59)) := ((But.refl [] w1).alloc _).to_below
  have hlt := (Array.getElem?_eq_some_iff.1 hrow).1
  have ho := HO.out
  rcases ho.2 with ⟨e, e0⟩ | ⟨g, c', cur, e, hg0, hg, _⟩
  · exact ⟨w1.heap.size, w1.heap.size, .slice a N c, rfl, HB.out.size, hlt, by rw [cell_of_row _ _ _ _ _ _ hrow]; rfl, HB.out.size, hlt, .inl ⟨e, List.eq_nil_of_length_eq_zero (by omega)⟩, bel_trans HB.out hbel⟩
  · injection e with e1 e2 e3
    subst e1
    refine ⟨w1.heap.size, g, .slice (some ⟨g, 0, none⟩) N c, rfl, HB.out.size, hlt, by rw [cell_of_row _ _ _ _ _ _ hrow]; rfl, hg0, Nat.lt_of_lt_of_le (Array.getElem?_eq_some_iff.1 hg).1 hbel.size, .inr ⟨0, c, by rw [hzl], fun j hj => ?_⟩, bel_trans HB.out hbel⟩
    rw [Nat.zero_add]
    refine (But.of_below hbel).cell ?_ (fun e => by cases e)
    rw [ho.cellAt j (by omega), List.getElem?_map, List.getElem?_eq_getElem hj]
    rfl

/-- The slice's cells hold zs, in a block below n₀; or there is none. -/
def Lies_S (b : Nat) (W : World) (sv : Value) (zs : List ByteArray) : Prop :=
  (sv = .slice none 0 0 ∧ zs = []) ∨ ∃ off cap, sv = .slice (some ⟨b, off, none⟩) zs.length cap ∧ ∀ j, j < zs.length → W.cell? ⟨b, off + j, none⟩ = some (.string (zs[j]?.getD ⟨#[]⟩))
theorem Lies_S.keep {b : Nat} {A B : World} (h : Keep b A B) {sv : Value} {zs : List ByteArray} : Lies_S b A sv zs → Lies_S b B sv zs
  | .inl e => .inl e
  | .inr ⟨off, cap, e, hc⟩ => .inr ⟨off, cap, e, fun j hj => (h.cell _).trans (hc j hj)⟩

set_option maxRecDepth 100000 in
set_option maxHeartbeats 2000000 in
theorem all1_in_S (F : Fence) (n : Nat) (h8 : F.fn 56) (hro : F.round = none) (hn : 1 ≤ n) (l Bs b off len cap : Nat) (zs : List ByteArray) (hreach : len * 16 ≤ 140737488351232) (J Jx : List (Nat × ByteArray) → World → Prop)
    (hY : ∀ pre x W, J pre W → pre.length < len → YieldAt F (n - 1) Try.prog l #[.int .i64 (x.1 : Int), .string (x.2)] W fun e W' =>
      (e = .returned (.bool true) ∧ J (pre ++ [x]) W' ∧ Keep b W W') ∨ (e = .returned (.bool false) ∧ Jx (pre ++ [x]) W'))
    (W : World) (hBs : W.cell? ⟨Bs, 0, none⟩ = some (.slice (some ⟨b, off, none⟩) len cap)) (hc : ∀ j, j < len → W.cell? ⟨b, off + j, none⟩ = some (.string (zs[j]?.getD ⟨#[]⟩))) (h0 : J [] W) :
    CallsIn F n Try.prog 56 #[.func (.yield l) #[] #[], .pointer (some ⟨Bs, 0, none⟩)] W fun e W' => (∃ v, e = .returned v) ∧
      ((∃ ys, ys = upto (fun j => (j, zs[j]?.getD ⟨#[]⟩)) len ∧ J ys W') ∨ (∃ pre, (∃ k, k ≤ len ∧ pre = upto (fun j => (j, zs[j]?.getD ⟨#[]⟩)) k) ∧ Jx pre W')) := by
  refine callsIn_of_wp Try.func56 rfl h8 ?_ hro
  simp only [Try.ntmps56, List.size_toArray, List.length_cons, List.length_nil, Nat.reduceAdd, Nat.reduceSub, Array.replicate_succ, Array.replicate_zero, List.push_toArray, List.append_toArray, List.nil_append, List.cons_append]
  gi_wp2
  gi_loopw [7] (fun i wr => ∃ k : Nat, k ≤ len ∧ i = .int .i64 k ∧ J (upto (fun j => (j, zs[j]?.getD ⟨#[]⟩)) k) wr ∧ Keep b W wr)
    (fun i _ => len - (intOf i).toNat)
  case atStart => exact ⟨0, Nat.zero_le _, rfl, h0, Keep.refl _ _⟩
  case round =>
    obtain ⟨k, hk, rfl, hJs, hnx⟩ := hrel
    have hcx : k < len → wr.cell? ⟨b, off + k, none⟩ = some (.string (zs[k]?.getD ⟨#[]⟩)) := fun h => (hnx.cell _).trans (hc k h)
    by_cases hlt : k < len
    · obtain ⟨fn, tmps, assign, body, hy, hR⟩ := hY _ (k, zs[k]?.getD ⟨#[]⟩) wr hJs (by rw [upto_length]; exact hlt)
      dsimp only at hy
      have hcx' := hcx hlt
      gi_wp2
      refine hR.mono ?_
      rintro e W3 (⟨rfl, hJ3, hk3⟩ | ⟨rfl, hJx3⟩)
      · gi_wp2
        go_roundw
        case rel => exact ⟨k + 1, by omega, by simp, by rw [upto_succ]; exact hJ3, hnx.trans hk3⟩
        case measure => simp [intOf]; omega
      · gi_wp2
        refine bodyPost_ret (results_none rfl _ _ _) rfl ?_
        exact ⟨⟨_, rfl⟩, .inr ⟨_, ⟨k + 1, by omega, (upto_succ _ _).symm⟩, hJx3⟩⟩
    · obtain rfl : k = len := by omega
      gi_wp2
      go_end0
      exact ⟨⟨_, rfl⟩, .inl ⟨_, rfl, hJs⟩⟩

set_option maxRecDepth 100000 in
set_option maxHeartbeats 1000000 in
theorem all1_nil_in_S (F : Fence) (n : Nat) (h8 : F.fn 56) (hro : F.round = none) (l Bs : Nat) (J : List (Nat × ByteArray) → World → Prop) (W : World) (hBs : W.cell? ⟨Bs, 0, none⟩ = some (.slice none 0 0)) (h0 : J [] W) :
    CallsIn F n Try.prog 56 #[.func (.yield l) #[] #[], .pointer (some ⟨Bs, 0, none⟩)] W fun e W' => (∃ v, e = .returned v) ∧ J [] W' := by
  refine callsIn_of_wp Try.func56 rfl h8 ?_ hro
  simp only [Try.ntmps56, List.size_toArray, List.length_cons, List.length_nil, Nat.reduceAdd, Nat.reduceSub, Array.replicate_succ, Array.replicate_zero, List.push_toArray, List.append_toArray, List.nil_append, List.cons_append]
  gi_wp2
  gi_loopw [7] (fun i wr => i = .int .i64 0 ∧ J [] wr) (fun _ _ => 0)
  case atStart => exact ⟨rfl, h0⟩
  case round =>
    obtain ⟨rfl, hJs⟩ := hrel
    gi_wp2
    go_end0
    exact ⟨⟨_, rfl⟩, hJs⟩

theorem all_stops_S (F : Fence) (n : Nat) (h8 : F.fn 56) (hro : F.round = none) (hn : 1 ≤ n) (Bs b : Nat) (sv : Value) (zs : List ByteArray) (hreach : zs.length * 16 ≤ 140737488351232) (w : World) (hBs : Bs < w.heap.size) (hb : b < w.heap.size)
    (hc : w.cell? ⟨Bs, 0, none⟩ = some sv) (hI : Lies_S b w sv zs) :
    SeqStopsK F n Try.prog 56 #[.pointer (some ⟨Bs, 0, none⟩)] (fun x : Nat × ByteArray => #[Value.int .i64 (x.1 : Int), Value.string (x.2)]) (Keep b) (fun ys => ys = upto (fun j => (j, zs[j]?.getD ⟨#[]⟩)) zs.length)
      (fun pre => ∃ k, k ≤ zs.length ∧ pre = upto (fun j => (j, zs[j]?.getD ⟨#[]⟩)) k) zs.length w := fun l J Jx W hW _ _ hY h0 => by
  have hc' := (hW.cell (p := ⟨Bs, 0, none⟩) hBs).trans hc
  rcases hI.keep (Keep.below hW hb) with ⟨rfl, rfl⟩ | ⟨off, cap, rfl, hcs⟩
  · exact (all1_nil_in_S F n h8 hro l Bs J W hc' h0).mono fun e W' ⟨he, hj⟩ => ⟨he, .inl ⟨_, rfl, hj⟩⟩
  · exact all1_in_S F n h8 hro hn l Bs b off zs.length cap zs hreach J Jx hY W hc' hcs h0

set_option maxRecDepth 100000 in
set_option maxHeartbeats 2000000 in
theorem qAll_S {w : World} {p : Option Addr} {bs : List Nat} {cap : Nat} (zs : List ByteArray) (HQ : QP w 9 1 87 p bs cap (zs.map fun z => [Value.string (z)])) : Calls Try.prog 45 #[.pointer p] w fun e w' => ∃ Bs b sv, e = .returned (.func (.func 56) #[] #[.pointer (some ⟨Bs, 0, none⟩)]) ∧ w.heap.size ≤ Bs ∧ Bs < w'.heap.size ∧ w'.cell? ⟨Bs, 0, none⟩ = some sv ∧ w.heap.size ≤ b ∧ b < w'.heap.size ∧ Lies_S b w' sv zs ∧ Below w.heap.size w w' := by
  have hfl : (zs.map fun z => [Value.string (z)]).flatten = zs.map fun z => Value.string (z) := flat_map _ zs
  have HFL : Hid (_ = _) := hfl
  have HL := qList_S HQ (by rw [hfl]; intro u hu; obtain ⟨z, _, rfl⟩ := List.mem_map.1 hu; rfl)
  clear hfl
  have HH : Hid (Calls _ _ _ _ _) := HL
  clear HL HQ
  go_enter Try.func45, Try.ntmps45
  go_wp2_with fail
  refine HH.out.mono ?_
  rintro e w1 ⟨v, rfl, ho, hb⟩
  rw [HFL.out, List.length_map] at ho
  have HO : Hid (w1.ownsRow w.heap.size 9 1 v zs.length (zs.map fun z => Value.string (z))) := ho
  obtain ⟨a, c, rfl⟩ : ∃ a c, v = .slice a zs.length c := by
    rcases ho.2 with ⟨rfl, e⟩ | ⟨g, c, _, rfl, _⟩
    · exact ⟨none, 0, by rw [e]⟩
    · exact ⟨_, c, rfl⟩
  have HB : Hid (Below w.heap.size w w1) := hb
  clear ho hb HH HFL
  generalize hzl : zs.length = N at *
  go_wp2
  go_ret
  have hrow := heap_alloc_new w1 (Obj.cells #[Value.slice a N c] 50)
  have hbel : Below w1.heap.size w1 (w1.alloc (Obj.cells #[Value.slice a N c] 50)) := ((But.refl [] w1).alloc _).to_below
  have hlt := (Array.getElem?_eq_some_iff.1 hrow).1
  have ho := HO.out
  rcases ho.2 with ⟨e, e0⟩ | ⟨g, c', cur, e, hg0, hg, _⟩
  · exact ⟨w1.heap.size, w1.heap.size, .slice a N c, rfl, HB.out.size, hlt, by rw [cell_of_row _ _ _ _ _ _ hrow]; rfl, HB.out.size, hlt, .inl ⟨e, List.eq_nil_of_length_eq_zero (by omega)⟩, bel_trans HB.out hbel⟩
  · injection e with e1 e2 e3
    subst e1
    refine ⟨w1.heap.size, g, .slice (some ⟨g, 0, none⟩) N c, rfl, HB.out.size, hlt, by rw [cell_of_row _ _ _ _ _ _ hrow]; rfl, hg0, Nat.lt_of_lt_of_le (Array.getElem?_eq_some_iff.1 hg).1 hbel.size, .inr ⟨0, c, by rw [hzl], fun j hj => ?_⟩, bel_trans HB.out hbel⟩
    rw [Nat.zero_add]
    refine (But.of_below hbel).cell ?_ (fun e => by cases e)
    rw [ho.cellAt j (by omega), List.getElem?_map, List.getElem?_eq_getElem hj]
    rfl

end Rg
end Go.Proofs.Ytjhlflochheolaa

/-
  The laws' own test of a queue of one text.
-/
set_option maxRecDepth 100000
set_option linter.unusedVariables false
set_option linter.unusedSimpArgs false
namespace Go.Proofs.Ytjhlflochheolaa
open Go.RowKit
namespace Rg

set_option maxHeartbeats 2000000 in
theorem steady_any (w : World) : Calls Try.prog 16 #[] w fun e w' => e = .returned (.bool true) ∧ Below w.heap.size w w' := by
  go_enter Try.func16, Try.ntmps16
  go_wp2_with fail
  refine (qNew_S w 1 (by omega) (by omega)).mono ?_
  rintro e w1 ⟨p, bs, cap, E, rfl, hnew, hq, hb⟩
  rcases hnew with ⟨_, _, rfl, hcap, rfl, rfl⟩ | ⟨hbad, _⟩
  · obtain rfl : cap = 1 := by omega
    have HB1 : Hid (Below w.heap.size w w1) := hb
    have HQ1 : Hid (QP w1 9 1 87 (some ⟨w.heap.size, 0, none⟩) [w.heap.size] 1 []) := hq
    clear hq hb hcap
    go_wp2_with fail
    refine (qPush_S HQ1.out _ (by simp)).mono ?_
    rintro e w2 ⟨rfl, bs2, hq2, hin2, hb2⟩
    have HQ2 : Hid (QP w2 9 1 87 (some ⟨w.heap.size, 0, none⟩) bs2 1 [[.string ⟨#[97]⟩]]) := hq2
    have HI2 : Hid (∀ b ∈ bs2, w.heap.size ≤ b) := (fun b hb => by
      rcases hin2 b hb with h | h
      · simp at h; omega
      · have := HB1.out.size; omega : ∀ b ∈ bs2, w.heap.size ≤ b)
    have HB2 : Hid (Below w.heap.size w w2) := HB1.out.trans (hb2.below HB1.out.size (by simp))
    clear hq2 hin2 hb2
    go_wp2_with fail
    refine (qPushNo_S HQ2.out _ (by simp)).mono ?_
    rintro e w3 ⟨rfl, hb3⟩
    have HB3 : Hid (Below w.heap.size w w3) := bel_trans HB2.out hb3
    have HQ3 : Hid (QP w3 9 1 87 (some ⟨w.heap.size, 0, none⟩) bs2 1 [[.string ⟨#[97]⟩]]) := HQ2.out.below hb3
    clear hb3
    go_wp2_with fail
    refine (qPop_S _ HQ3.out).mono ?_
    rintro e w4 ⟨rfl, hq4, hb4⟩
    have HB4 : Hid (Below w.heap.size w w4) := HB3.out.trans (hb4.below HB3.out.size HI2.out)
    clear hq4 hb4
    go_wp2
    go_ret
    exact ⟨rfl, HB4.out⟩
  · omega

end Rg
end Go.Proofs.Ytjhlflochheolaa
