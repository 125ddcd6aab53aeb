/- Several texts as one. -/
import Derived.Test.YtenipnlpambehaaDoorZzN
import Derived.Deep.RegionLaw
import Derived.Laws.AppendOwnNone
import Derived.Test.YtenipnlpambehaaDoorZzA
import Derived.Test.YtenipnlpambehaaDoorRows
import Derived.WalkKit
import Derived.Shelf.SlSortCmp.QuietGrown
import Derived.Lib.AppendIntMem
import Derived.Laws.StructEq
/-
  span: the law's spans.
-/
set_option linter.unusedVariables false
set_option linter.unusedSimpArgs false
namespace Go.Proofs.YtenipnlpambehaaDoor
open Go.RowKit Go.Shelf
namespace Sn
open Oc Tg Ac

theorem step_appN {ops : Array Oper} {o : Oper} {a : Act} {K : Act → World → Prop} {Q : Exit → Act → World → Prop} {E : Prop} (T S : Nat) (hinfo : (Tryd.prog.info? T).map (fun i => (i.zero, i.size, i.bytes)) = some (some (.agg #[.int .i64 0, .int .i64 0]), 2, 16))
    (hund : Tryd.prog.underlying S = some (.slice T)) (hgd : o.guard = none) (s x : Operand)
    (ho : o.op = .call { callee := .builtin .append, args := #[s, x], argTypes := #[S, S] }) (B : Nat) (v : Value) (t : List Sp) (W : World) (p : Sp) (n1 n2 : Int) (h1 : n1 = p.1) (h2 : n2 = p.2)
    (hs : a.eval s = v) (hown : OwnN T B v t W) (g : Nat) (hx : a.eval x = .slice (some ⟨g, 0, none⟩) 1 1) (hg : g = W.heap.size) (hlen : t.length + 1 ≤ 2147483648) (hB : B ≤ W.heap.size)
    (h : ∀ v' w', OwnN T B v' (t ++ [p]) w' → Below B W w' → K (a.put o.dst v') w') : if Region.wanted o (yielded ops a.tmps) = true then Oper.wp Tryd.prog o a (W.alloc (.cells #[.int .i64 n1, .int .i64 n2] T)) K Q else E := by
  subst h1 h2 hg
  have hw : Region.wanted o (yielded ops a.tmps) = true := by simp [Region.wanted, hgd]
  rw [if_pos hw]
  obtain ⟨i0, hi, hz0, hz1, hz2⟩ := info_parts hinfo
  refine wp_append_own _ s x S ho B T i0 (.agg #[.int .i64 0, .int .i64 0]) 2 16 hund hi hz0 hz1 hz2 rfl (by decide) v t.length _ hs (World.ownsRow.alloc hown _) ⟨W.heap.size, 0, none⟩ 1 1 (encN1 p) hx rfl ?_ ?_ ?_ ?_ ?_ ?_
  · intro j u hj
    unfold encN1 at hj
    match j, hj with
    | 0, hj => simp at hj; subst hj; simp [Addr.add]
    | 1, hj => simp at hj; subst hj; simp [Addr.add]
  · intro u hu
    unfold encN1 at hu
    simp at hu
    rcases hu with rfl | rfl <;> rfl
  · unfold maxLen; omega
  · omega
  · simp; omega
  · intro v' w' h1 h2 _
    refine h v' w' ?_ (((Below.refl B W).alloc hB _).grown h2 (by simp; omega) (fun k hk => (World.ownsRow.lt hown k hk).1))
    unfold OwnN
    rw [encN_snoc, List.length_append]
    exact h1

theorem take_nthN' (t : List Sp) (k : Nat) (h : k < t.length) : t.take (k + 1) = t.take k ++ [nthN t k] := by
  unfold nthN
  rw [List.take_add_one, List.getElem?_eq_getElem h, List.getD_eq_getElem?_getD, List.getElem?_eq_getElem h]; rfl

set_option maxRecDepth 100000 in
set_option maxHeartbeats 4000000 in
theorem spans_any (v : Value) (t : List Sp) (w : World) (h : RdN v t w) (hl : t.length ≤ 16777216) :
    Calls Tryd.prog 11 #[v] w fun e w' => ∃ u, e = .returned u ∧ OwnN 55 w.heap.size u t w' ∧ Below w.heap.size w w' := by
  obtain ⟨a, c, rfl, h⟩ := h
  have HR : Hid (t = [] ∨ ∃ g o, a = some ⟨g, o, none⟩ ∧ t.length ≤ c ∧ ∀ j, j < t.length → w.cell? ⟨g, o + j * 2, none⟩ = some (.int .i64 (nthN t j).1) ∧ w.cell? ⟨g, o + j * 2 + 1, none⟩ = some (.int .i64 (nthN t j).2)) := h
  clear h
  go_enter Tryd.func11, Tryd.ntmps11
  go_wp2
  go_loopw [3, 4] (fun ov i wr => ∃ k : Nat, k ≤ t.length ∧ i = .int .i64 k ∧ Hid (OwnN 55 w.heap.size ov (t.take k) wr) ∧ Hid (Below w.heap.size w wr)) (fun _ i _ => t.length - (intOf i).toNat)
  case atStart => exact ⟨0, Nat.zero_le _, rfl, ownN_empty _ w (Nat.le_refl _), (Below.refl _ w).alloc (Nat.le_refl _) _⟩
  case round =>
    obtain ⟨k, hk, rfl, hown, hbl⟩ := hrel
    have hsz := hbl.out.size
    by_cases hlt : k < t.length
    · rcases HR.out with h | ⟨g, o, rfl, hc, hcell⟩
      · rw [h] at hlt; simp at hlt
      obtain ⟨c0, c1⟩ := hcell k hlt
      have hg : g < w.heap.size := World.block_lt_of_cell? w _ c0
      have d0 : wr.cell? ⟨g, o + k * 2, none⟩ = some (.int .i64 (nthN t k).1) := (hbl.out.cell (p := ⟨g, o + k * 2, none⟩) hg).trans c0
      have d1 : wr.cell? ⟨g, o + k * 2 + 1, none⟩ = some (.int .i64 (nthN t k).2) := (hbl.out.cell (p := ⟨g, o + k * 2 + 1, none⟩) hg).trans c1
      clear hcell c0 c1
      have HTk : Hid (t.take (k + 1) = t.take k ++ [nthN t k]) := take_nthN' t k hlt
      have hlk : (t.take k).length + 1 ≤ 2147483648 := by rw [List.length_take]; omega
      generalize nthN t k = p at *
      obtain ⟨x1, x2⟩ := p
      dsimp only at d0 d1
      have HO1 : Hid (OwnN 55 w.heap.size _ (t.take k) wr.drew) := hown.out.below (below_drewN (Below.refl _ _) 1)
      have HB1 : Hid (Below w.heap.size w wr.drew) := below_drewN hbl.out 1
      have hs1 : w.heap.size ≤ wr.drew.heap.size := hsz
      go_wp2_with fail
      go_region_law (refine step_appN 55 33 infoN2 Tryd.underlying33 rfl (.tmp 12) (.tmp 24) rfl w.heap.size _ (t.take k) _ (x1, x2) _ _ rfl rfl (by simp [Act.eval, Act.put]) HO1.out _ (by simp [Act.eval, Act.put]) rfl hlk hs1 ?_; intro v6 w6 hown6 hb6)
      all_goals
        have HO6 : Hid (OwnN 55 w.heap.size v6 (t.take (k + 1)) w6) := (by rw [HTk.out]; exact hown6 : OwnN 55 w.heap.size v6 (t.take (k + 1)) w6)
        have HB6 : Hid (Below w.heap.size w w6) := HB1.out.trans hb6
        clear hown6 hb6
        go_wp2
        go_roundw
        case rel => exact ⟨k + 1, by omega, by go_num, HO6, HB6⟩
        case measure => simp [intOf]; omega
    · obtain rfl : k = t.length := by omega
      rw [List.take_length] at hown
      go_wp2
      go_ret
      exact ⟨_, rfl, hown.out, hbl.out⟩

end Sn
end Go.Proofs.YtenipnlpambehaaDoor

/-
  Worlds that only grew.
-/
set_option linter.unusedVariables false
set_option linter.unusedSimpArgs false
namespace Go.Proofs.YtenipnlpambehaaDoor
open Go.RowKit Go.Shelf
open Go.Sort (grow alloc_eq_grow grow_grow grow_empty)
namespace Sn

theorem mixO : Tryd.prog.follows .mixedOrders = true := by kernel_rfl

/-- A world that only grew: draws, new blocks. -/
def Grew (w w' : World) : Prop := ∃ q os, w' = grow (w.drewN q) os
theorem Grew.below {w w' : World} (h : Grew w w') : Below w.heap.size w w' := by
  obtain ⟨q, os, rfl⟩ := h
  exact Lib.below_grow _ w (Nat.le_refl _) q os
theorem Grew.refl (w : World) : Grew w w := ⟨0, #[], by rw [grow_empty]; rfl⟩
theorem Grew.trans {w w1 w2 : World} (h : Grew w w1) (h' : Grew w1 w2) : Grew w w2 := by
  obtain ⟨q, os, rfl⟩ := h
  obtain ⟨q', os', rfl⟩ := h'
  exact ⟨q + q', os ++ os', by show grow (grow ((w.drewN q).drewN q') os) os' = _; rw [grow_grow, World.drewN_drewN]⟩
theorem Grew.alloc {w w1 : World} (h : Grew w w1) (o : Obj) : Grew w (w1.alloc o) := h.trans ⟨0, #[o], by rw [alloc_eq_grow]; rfl⟩
theorem Grew.drewN {w w1 : World} (h : Grew w w1) (k : Nat) : Grew w (w1.drewN k) := h.trans ⟨k, #[], by rw [grow_empty]⟩

end Sn
end Go.Proofs.YtenipnlpambehaaDoor

/-
  span: isSpan.
-/
set_option linter.unusedVariables false
set_option linter.unusedSimpArgs false
namespace Go.Proofs.YtenipnlpambehaaDoor
open Go.RowKit Go.Shelf
open Go.Sort (grow alloc_eq_grow grow_grow grow_empty)
namespace Sn
open Oc Tg Ac

theorem eqN (a b c d : Int) (w : World) : (binOp .eql 44 (.agg #[.int .i64 a, .int .i64 b]) (.agg #[.int .i64 c, .int .i64 d])).run Tryd.prog w = .ok (.bool (a == c && b == d)) w := by
  have u3 := Tryd.underlying3
  have a3 := Tryd.isAgg3
  have z3 := Tryd.sizeOf3
  have hS : Tryd.prog.underlying 44 = some (.struct (Tryd.prog.fieldsOf 44)) := by kernel_rfl
  have hp : Tryd.prog.stoodInHeld 44 = false := by kernel_rfl
  rw [run_eql_struct, show (10000 : Nat) = 9999 + 1 from rfl, run_equalIn_agg w 9999 44 _ _ hS hp]
  simp only [Program.fieldsOf, Tryd.underlying44]
  go_simp
  by_cases h1 : a = c <;> by_cases h2 : b = d <;> simp [h1, h2]

theorem PB.grown {T : Nat} {w : World} {g : Nat} {t : Sp} (h : PB T w g t) (n : Nat) (os : Array Obj) : PB T (grow (w.drewN n) os) g t := h.below (Grew.below ⟨n, os, rfl⟩)

set_option maxHeartbeats 400000 in
theorem isEmpty_gr (a b : Int) (w : World) :
    Calls Tryd.prog 31 #[.agg #[.int .i64 a, .int .i64 b]] w fun e w' => e = .returned (.bool (emp (a, b))) ∧ ∃ q os, w' = grow (w.drewN q) os := by
  unfold emp
  dsimp only
  go_enter Tryd.func31, Tryd.ntmps31
  go_wp2
  go_ret
  exact ⟨rfl, (Grew.refl w).alloc _⟩

set_option maxHeartbeats 400000 in
theorem within_gr (a b size : Int) (w : World) :
    Calls Tryd.prog 30 #[.agg #[.int .i64 a, .int .i64 b], .int .i64 size] w fun e w' => e = .returned (.agg #[.int .i64 (wth (a, b) size).1, .int .i64 (wth (a, b) size).2]) ∧ ∃ q os, w' = grow (w.drewN q) os := by
  unfold wth
  dsimp only
  go_enter Tryd.func30, Tryd.ntmps30
  go_wp2
  refine bodyPost_ret (v := .agg #[.int .i64 (max a 0), .int .i64 (min b size)]) (by simp [results, Tryd.results30, go_sem]) rfl ?_
  exact ⟨rfl, ((Grew.refl w).alloc _).alloc _⟩

set_option maxRecDepth 100000 in
set_option maxHeartbeats 1000000 in
theorem isSpan_gr (a b size : Int) (w : World) :
    Calls Tryd.prog 43 #[.agg #[.int .i64 a, .int .i64 b], .int .i64 size] w fun e w' => e = .returned (.bool (isSp (a, b) size)) ∧ ∃ q os, w' = grow (w.drewN q) os := by
  have HI : Hid (∀ W, Calls _ _ _ W _) := fun W => isEmpty_gr a b W
  have HW : Hid (∀ W, Calls _ _ _ W _) := fun W => within_gr a b size W
  obtain ⟨w1, hw1⟩ : ∃ w1, w1 = w.alloc (.cells #[.int .i64 a, .int .i64 b] 44) := ⟨_, rfl⟩
  have HPB : Hid (PB 44 w1 w.heap.size (a, b)) := (by rw [hw1]; exact heap_alloc_new w _ : PB _ _ _ _)
  have HB1 : Hid (Grew w w1) := (by rw [hw1]; exact (Grew.refl w).alloc _ : Grew _ _)
  have k0 : ∀ n os, (grow (w1.drewN n) os).cell? ⟨w.heap.size, 0, none⟩ = some (.int .i64 a) := fun n os => (HPB.out.grown n os).c0
  have k1 : ∀ n os, (grow (w1.drewN n) os).cell? ⟨w.heap.size, 1, none⟩ = some (.int .i64 b) := fun n os => (HPB.out.grown n os).c1
  have HEQ := fun y1 y2 w => eqN a b y1 y2 w
  have hmx := mixO
  cases hem : emp (a, b) with
  | true =>
    rw [hem] at HI
    have HS : Hid (isSp (a, b) size = false) := isSp_emp hem size
    clear hem
    go_enter Tryd.func43, Tryd.ntmps43
    go_wp2_with fail
    rw [← hw1]
    clear hw1
    generalize w.heap.size = g at *
    go_quiet_grown (first | (go_at_call 31; refine Calls.grown_of (HI.out _)) | (go_at_call 30; refine Calls.grown_of (HW.out _)))
    go_wp2
    go_ret
    rw [HS.out]
    exact ⟨rfl, HB1.out.trans ⟨nq, osq, rfl⟩⟩
  | false =>
    rw [hem] at HI
    have HS : Hid (isSp (a, b) size = decide ((a, b) = wth (a, b) size)) := isSp_wth hem size
    clear hem
    generalize wth (a, b) size = Y at *
    obtain ⟨y1, y2⟩ := Y
    dsimp only at *
    go_enter Tryd.func43, Tryd.ntmps43
    go_wp2_with fail
    rw [← hw1]
    clear hw1
    generalize w.heap.size = g at *
    go_quiet_grown (first | (go_at_call 31; refine Calls.grown_of (HI.out _)) | (go_at_call 30; refine Calls.grown_of (HW.out _)))
    go_wp2
    go_ret
    rw [HS.out]
    refine ⟨ret_bool ?_, HB1.out.trans ⟨nq, osq, rfl⟩⟩
    rw [Bool.eq_iff_iff]
    simp

end Sn
end Go.Proofs.YtenipnlpambehaaDoor
