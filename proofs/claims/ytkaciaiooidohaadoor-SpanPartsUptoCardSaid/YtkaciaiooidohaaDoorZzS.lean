/- Several texts as one. -/
import Derived.Test.YtkaciaiooidohaaDoorZzK
import Derived.Deep.RegionLaw
import Derived.Laws.AppendOwnNone
import Derived.Test.YtkaciaiooidohaaDoorZzL
import Derived.Test.YtkaciaiooidohaaDoorZzR
/-
  span: the law's spans.
-/
set_option linter.unusedVariables false
set_option linter.unusedSimpArgs false
namespace Go.Proofs.YtkaciaiooidohaaDoor
open Go.RowKit Go.Shelf
namespace Sn
open Oc Tg Ac

theorem step_appN {ops : Array Oper} {o : Oper} {a : Act} {K : Act → World → Prop} {Q : Exit → Act → World → Prop} {E : Prop} (T S : Nat) (hinfo : (Tryd.prog.info? T).map (fun i => (i.zero, i.size, i.bytes)) = some (some (.agg #[.int .i64 0, .int .i64 0]), 2, 16))
    (hund : Tryd.prog.underlying S = some (.slice T)) (hgd : o.guard = none) (s x : Operand)
    (ho : o.op = .call { callee := .builtin .append, args := #[s, x], argTypes := #[S, S] }) (B : Nat) (v : Value) (t : List Sp) (W : World) (p : Sp) (n1 n2 : Int) (h1 : n1 = p.1) (h2 : n2 = p.2)
    (hs : a.eval s = v) (hown : OwnN T B v t W) (g : Nat) (hx : a.eval x = .slice (some ⟨g, 0, none⟩) 1 1) (hg : g = W.heap.size) (hlen : t.length + 1 ≤ 2147483648) (hB : B ≤ W.heap.size)
    (h : ∀ v' w', OwnN T B v' (t ++ [p]) w' → Below B W w' → K (a.put o.dst v') w') : if Region.wanted o (yielded ops a.tmps) = true then Oper.wp Tryd.prog o a (W.alloc (.cells #[.int .i64 n1, .int .i64 n2] T)) K Q else E := by
  subst h1 h2 hg
  have hw : Region.wanted o (yielded ops a.tmps) = true := by simp [Region.wanted, hgd]
  rw [if_pos hw]
  obtain ⟨i0, hi, hz0, hz1, hz2⟩ := info_parts hinfo
  refine wp_append_own _ s x S ho B T i0 (.agg #[.int .i64 0, .int .i64 0]) 2 16 hund hi hz0 hz1 hz2 rfl (by decide) v t.length _ hs (World.ownsRow.alloc hown _) ⟨W.heap.size, 0, none⟩ 1 1 (encN1 p) hx rfl ?_ ?_ ?_ ?_ ?_ ?_
  · intro j u hj
    unfold encN1 at hj
    match j, hj with
    | 0, hj => simp at hj; subst hj; simp [Addr.add]
    | 1, hj => simp at hj; subst hj; simp [Addr.add]
  · intro u hu
    unfold encN1 at hu
    simp at hu
    rcases hu with rfl | rfl <;> rfl
  · unfold maxLen; omega
  · omega
  · simp; omega
  · intro v' w' h1 h2 _
    refine h v' w' ?_ (((Below.refl B W).alloc hB _).grown h2 (by simp; omega) (fun k hk => (World.ownsRow.lt hown k hk).1))
    unfold OwnN
    rw [encN_snoc, List.length_append]
    exact h1

theorem take_nthN' (t : List Sp) (k : Nat) (h : k < t.length) : t.take (k + 1) = t.take k ++ [nthN t k] := by
  unfold nthN
  rw [List.take_add_one, List.getElem?_eq_getElem h, List.getD_eq_getElem?_getD, List.getElem?_eq_getElem h]; rfl

set_option maxRecDepth 100000 in
set_option maxHeartbeats 4000000 in
theorem spans_any (v : Value) (t : List Sp) (w : World) (h : RdN v t w) (hl : t.length ≤ 16777216) :
    Calls Tryd.prog 6 #[v] w fun e w' => ∃ u, e = .returned u ∧ OwnN 44 w.heap.size u t w' ∧ Below w.heap.size w w' := by
  obtain ⟨a, c, rfl, h⟩ := h
  have HR : Hid (t = [] ∨ ∃ g o, a = some ⟨g, o, none⟩ ∧ t.length ≤ c ∧ ∀ j, j < t.length → w.cell? ⟨g, o + j * 2, none⟩ = some (.int .i64 (nthN t j).1) ∧ w.cell? ⟨g, o + j * 2 + 1, none⟩ = some (.int .i64 (nthN t j).2)) := h
  clear h
  go_enter Tryd.func6, Tryd.ntmps6
  go_wp2
  go_loopw [3, 4] (fun ov i wr => ∃ k : Nat, k ≤ t.length ∧ i = .int .i64 k ∧ Hid (OwnN 44 w.heap.size ov (t.take k) wr) ∧ Hid (Below w.heap.size w wr)) (fun _ i _ => t.length - (intOf i).toNat)
  case atStart => exact ⟨0, Nat.zero_le _, rfl, ownN_empty _ w (Nat.le_refl _), (Below.refl _ w).alloc (Nat.le_refl _) _⟩
  case round =>
    obtain ⟨k, hk, rfl, hown, hbl⟩ := hrel
    have hsz := hbl.out.size
    by_cases hlt : k < t.length
    · rcases HR.out with h | ⟨g, o, rfl, hc, hcell⟩
      · rw [h] at hlt; simp at hlt
      obtain ⟨c0, c1⟩ := hcell k hlt
      have hg : g < w.heap.size := World.block_lt_of_cell? w _ c0
      have d0 : wr.cell? ⟨g, o + k * 2, none⟩ = some (.int .i64 (nthN t k).1) := (hbl.out.cell (p := ⟨g, o + k * 2, none⟩) hg).trans c0
      have d1 : wr.cell? ⟨g, o + k * 2 + 1, none⟩ = some (.int .i64 (nthN t k).2) := (hbl.out.cell (p := ⟨g, o + k * 2 + 1, none⟩) hg).trans c1
      clear hcell c0 c1
      have HTk : Hid (t.take (k + 1) = t.take k ++ [nthN t k]) := take_nthN' t k hlt
      have hlk : (t.take k).length + 1 ≤ 2147483648 := by rw [List.length_take]; omega
      generalize nthN t k = p at *
      obtain ⟨x1, x2⟩ := p
      dsimp only at d0 d1
      have HO1 : Hid (OwnN 44 w.heap.size _ (t.take k) wr.drew) := hown.out.below (below_drewN (Below.refl _ _) 1)
      have HB1 : Hid (Below w.heap.size w wr.drew) := below_drewN hbl.out 1
      have hs1 : w.heap.size ≤ wr.drew.heap.size := hsz
      go_wp2_with fail
      go_region_law (refine step_appN 44 23 infoN2 Tryd.underlying23 rfl (.tmp 12) (.tmp 24) rfl w.heap.size _ (t.take k) _ (x1, x2) _ _ rfl rfl (by simp [Act.eval, Act.put]) HO1.out _ (by simp [Act.eval, Act.put]) rfl hlk hs1 ?_; intro v6 w6 hown6 hb6)
      all_goals
        have HO6 : Hid (OwnN 44 w.heap.size v6 (t.take (k + 1)) w6) := (by rw [HTk.out]; exact hown6 : OwnN 44 w.heap.size v6 (t.take (k + 1)) w6)
        have HB6 : Hid (Below w.heap.size w w6) := HB1.out.trans hb6
        clear hown6 hb6
        go_wp2
        go_roundw
        case rel => exact ⟨k + 1, by omega, by go_num, HO6, HB6⟩
        case measure => simp [intOf]; omega
    · obtain rfl : k = t.length := by omega
      rw [List.take_length] at hown
      go_wp2
      go_ret
      exact ⟨_, rfl, hown.out, hbl.out⟩

end Sn
end Go.Proofs.YtkaciaiooidohaaDoor

/-
  span: awake.
-/
set_option linter.unusedVariables false
set_option linter.unusedSimpArgs false
namespace Go.Proofs.YtkaciaiooidohaaDoor
open Go.RowKit Go.Shelf
namespace Sn
open Oc Tg Ac

set_option maxRecDepth 100000 in
set_option maxHeartbeats 1000000 in
theorem awake_any (w : World) (hw : ML w) :
    Calls Tryd.prog 9 #[] w fun e w' => e = .returned (.bool true) ∧ Below w.heap.size w w' := by
  have h := Parse_any (str [98, 121, 116, 101, 115, 61, 48, 45, 52]) (by decide +kernel) 10 (by omega) (by omega) w hw
  rw [show parR (str [98, 121, 116, 101, 115, 61, 48, 45, 52]).data.toList 10 = ([(0, 5)], 0) by decide +kernel] at h
  have HP : Hid (Calls Tryd.prog 11 #[.string ⟨#[98, 121, 116, 101, 115, 61, 48, 45, 52]⟩, .int .i64 10] w _) := h
  clear h
  have HC : Hid (∀ W, Calls Tryd.prog 21 #[.string ⟨#[104, 101, 108, 108, 111]⟩, .agg #[.int .i64 1, .int .i64 3]] W fun e w' => e = .returned (.tuple #[.string ⟨#[101, 108]⟩, .int .i64 0]) ∧ Below W.heap.size W w') := fun W => by
    have h := Cut_gr (str [104, 101, 108, 108, 111]) (by decide +kernel) 1 3 W
    rw [show cutR (str [104, 101, 108, 108, 111]).data.toList (1, 3) = ([101, 108], 0) by decide +kernel] at h
    exact h.mono fun e w' ⟨h1, h2⟩ => ⟨h1, Grew.below h2⟩
  clear hw
  have HEQ := fun y1 y2 w => eqN 0 5 y1 y2 w
  go_enter Tryd.func9, Tryd.ntmps9
  go_wp2_with fail
  refine HP.out.mono ?_
  rintro e w2 ⟨v, rfl, ho, hb2⟩
  have HB2 : Hid (Below w.heap.size w w2) := hb2
  have HR2 : Hid (RdN v [(0, 5)] w2) := ho.rd
  obtain ⟨va, vc, rfl⟩ := ho.form
  clear ho hb2
  go_wp2_with fail
  refine (HC.out _).mono ?_
  rintro e w3 ⟨rfl, hb3⟩
  have HB3 : Hid (Below w.heap.size w w3) := bel_trans HB2.out hb3
  obtain ⟨a', c', e', hcs⟩ := HR2.out.below hb3
  injection e' with e1 _ e2
  subst e1 e2
  rcases hcs with h | ⟨g, o, rfl, hlc, hcell⟩
  · cases h
  have p0 : w3.cell? ⟨g, o, none⟩ = some (.int .i64 0) := by simpa [nthN] using (hcell 0 (by decide)).1
  have p1 : w3.cell? ⟨g, o + 1, none⟩ = some (.int .i64 5) := by simpa [nthN] using (hcell 0 (by decide)).2
  clear hcell hb3 HR2
  go_wp2
  go_ret
  exact ⟨ret_bool (by simp), HB3.out⟩

end Sn
end Go.Proofs.YtkaciaiooidohaaDoor

/-
  SpanParts.
-/
set_option linter.unusedVariables false
set_option linter.unusedSimpArgs false
namespace Go.Proofs.YtkaciaiooidohaaDoor
open Go.RowKit Go.Shelf
namespace Sn
open Oc Tg Ac

set_option maxRecDepth 100000 in
set_option maxHeartbeats 2000000 in
theorem walk_SpanParts (A M Y : ByteArray) (v : Value) (t : List Sp) (h1 : A.size ≤ 1048576) (h2 : M.size ≤ 1048576) (h3 : Y.size ≤ 1048576) (ht : t.length ≤ 1048576) (hbn : ∀ k, k < t.length → -9223372036854775808 ≤ (nthN t k).1 ∧ (nthN t k).1 ≤ 9223372036854775807 ∧ -9223372036854775808 ≤ (nthN t k).2 ∧ (nthN t k).2 ≤ 9223372036854775807) (w : World) (hrd : RdN v t w) (hw : ML w ∧ Pow w) :
    Calls Tryd.prog 5 #[.agg #[.string A, .string M, .string Y, v]] w fun e w' => e = .returned (.bool true) ∧ Below w.heap.size w w' := by
  obtain ⟨bd, rfl⟩ : ∃ s, A = str s := ⟨A.data.toList, (str_self A).symm⟩
  obtain ⟨md, rfl⟩ : ∃ s, M = str s := ⟨M.data.toList, (str_self M).symm⟩
  obtain ⟨body, rfl⟩ : ∃ s, Y = str s := ⟨Y.data.toList, (str_self Y).symm⟩
  rw [str_size] at h1 h2 h3
  obtain ⟨hml, hpw⟩ := hw
  obtain ⟨w1, hw1⟩ : ∃ w1, w1 = w.alloc (.cells #[.string (str bd), .string (str md), .string (str body), v] 38) := ⟨_, rfl⟩
  have hb1 : Below w.heap.size w w1 := by rw [hw1]; exact (Below.refl _ w).alloc (Nat.le_refl _) _
  have hP1 : w1.heap[w.heap.size]? = some (.cells #[.string (str bd), .string (str md), .string (str body), v] 38 (0, 0)) := by rw [hw1]; exact heap_alloc_new w _
  have HC : Hid (∀ W, Below w1.heap.size w1 W → W.cell? ⟨w.heap.size, 0, none⟩ = some (.string (str bd)) ∧ W.cell? ⟨w.heap.size, 1, none⟩ = some (.string (str md)) ∧ W.cell? ⟨w.heap.size, 2, none⟩ = some (.string (str body)) ∧ W.cell? ⟨w.heap.size, 3, none⟩ = some v) := fun W hb => by
    have hP := (hb.block _ (Array.getElem?_eq_some_iff.1 hP1).1).trans hP1
    exact ⟨by rw [Lib.cell_of_heap hP]; rfl, by rw [Lib.cell_of_heap hP]; rfl, by rw [Lib.cell_of_heap hP]; rfl, by rw [Lib.cell_of_heap hP]; rfl⟩
  have HA : Hid (∀ W, Below w1.heap.size w1 W → Calls Tryd.prog 9 #[] W fun e w' => e = .returned (.bool true) ∧ Below (World.heap W).size W w') := fun W hb => awake_any W (hml.below (bel_trans hb1 hb))
  have HS : Hid (Calls _ _ _ w1 _) := spans_any v t w1 (hrd.below hb1) (by omega)
  have HP : Hid (∀ W, Below w1.heap.size w1 W → Calls Tryd.prog 14 #[.string (str bd), .string (str md), .string (str body), v] W fun e w' => e = .returned (.tuple #[.string (str (partsR bd md body t).1), .int .i64 (partsR bd md body t).2]) ∧ Below (World.heap W).size W w') := fun W hb => Parts_any bd md body v t h1 h2 h3 ht W (hrd.below (bel_trans hb1 hb)) (hml.below (bel_trans hb1 hb)) (Oc.Pow.below hpw (bel_trans hb1 hb) (Nat.le_refl _))
  have HrP : Hid (∀ u W, RdN u t W → Calls Tryd.prog 15 #[.string (str bd), .string (str md), .string (str body), u] W fun e w' => e = .returned (.tuple #[.string (str (partsR bd md body t).1), .int .i64 (partsR bd md body t).2]) ∧ Below (World.heap W).size W w') := fun u W h => rParts_any bd md body u t h1 h2 h3 ht hbn W h
  have HSm : Hid (∀ x y W, RdN x t W → RdN y t W → Calls Tryd.prog 10 #[x, y] W fun e w' => e = .returned (.bool true) ∧ Below (World.heap W).size W w') := fun x y W h1 h2 => same_any x y t W h1 h2 (by omega)
  have HR : Hid (∀ W, Below w1.heap.size w1 W → RdN v t W) := fun W hb => hrd.below (bel_trans hb1 hb)
  have HB1 : Hid (Below w.heap.size w w1) := hb1
  obtain ⟨a, c, rfl, _⟩ := hrd
  clear hml hpw hbn hb1 hP1
  generalize str (partsR bd md body t).1 = PS at *
  generalize (partsR bd md body t).2 = PZ at *
  generalize str bd = BD at *
  generalize str md = MD at *
  generalize str body = BY at *
  have e1 : (PS.toList == PS.toList) = true := by simp
  have e2 : (PZ == PZ) = true := by simp
  have HB0 : Hid (Below w1.heap.size w1 w1) := Below.refl _ _
  obtain ⟨k0, k1, k2, k3⟩ := HC.out w1 HB0.out
  rw [hw1] at k3
  go_enter Tryd.func5, Tryd.ntmps5
  go_wp2_with fail
  rw [← hw1]
  clear hw1 k0 k1 k2 k3
  refine HS.out.mono ?_
  rintro e w2 ⟨u, rfl, hou, hb2⟩
  have HU2 : Hid (RdN u t w2) := hou.rd
  have H2 : Hid (Below w1.heap.size w1 w2) := hb2
  obtain ⟨k0, k1, k2, k3⟩ := HC.out w2 hb2
  clear hou hb2
  go_wp2_with fail
  clear k0 k1 k2 k3
  refine (HP.out _ H2.out).mono ?_
  rintro e w3 ⟨rfl, hb3⟩
  have HU3 : Hid (RdN u t w3) := HU2.out.below hb3
  have H3 : Hid (Below w1.heap.size w1 w3) := bel_trans H2.out hb3
  obtain ⟨k0, k1, k2, k3⟩ := HC.out w3 H3.out
  clear hb3
  go_wp2_with fail
  clear k0 k1 k2 k3
  refine (HrP.out _ _ HU3.out).mono ?_
  rintro e w4 ⟨rfl, hb4⟩
  have HU4 : Hid (RdN u t w4) := HU3.out.below hb4
  have H4 : Hid (Below w1.heap.size w1 w4) := bel_trans H3.out hb4
  clear hb4
  go_wp2_with fail
  refine (HA.out _ H4.out).mono ?_
  rintro e w5 ⟨rfl, hb5⟩
  have HU5 : Hid (RdN u t w5) := HU4.out.below hb5
  have H5 : Hid (Below w1.heap.size w1 w5) := bel_trans H4.out hb5
  obtain ⟨k0, k1, k2, k3⟩ := HC.out w5 H5.out
  clear hb5
  go_wp2_with fail
  clear k0 k1 k2 k3
  refine (HSm.out _ _ _ (HR.out _ H5.out) HU5.out).mono ?_
  rintro e w6 ⟨rfl, hb6⟩
  have HB6 : Hid (Below w.heap.size w w6) := bel_trans HB1.out (bel_trans H5.out hb6)
  clear hb6
  go_wp2
  go_ret
  exact ⟨rfl, HB6.out⟩

end Sn
end Go.Proofs.YtkaciaiooidohaaDoor
