/- Several texts as one. -/
import Derived.Test.YtkaciaiooidohaaDoorZzK
import Derived.Deep.RegionLaw
import Derived.Laws.AppendOwnNone
import Derived.Test.YtkaciaiooidohaaDoorZzL
import Derived.Test.YtkaciaiooidohaaDoorRows
import Derived.Test.YtkaciaiooidohaaDoorZzA
import Derived.OpenShut
import Derived.SliceStrings
import Derived.Carry
import Derived.Deep.Strs
/-
  span: the law's spans.
-/
set_option linter.unusedVariables false
set_option linter.unusedSimpArgs false
namespace Go.Proofs.YtkaciaiooidohaaDoor
open Go.RowKit Go.Shelf
namespace Sn
open Oc Tg Ac

theorem step_appN {ops : Array Oper} {o : Oper} {a : Act} {K : Act → World → Prop} {Q : Exit → Act → World → Prop} {E : Prop} (T S : Nat) (hinfo : (Tryd.prog.info? T).map (fun i => (i.zero, i.size, i.bytes)) = some (some (.agg #[.int .i64 0, .int .i64 0]), 2, 16))
    (hund : Tryd.prog.underlying S = some (.slice T)) (hgd : o.guard = none) (s x : Operand)
    (ho : o.op = .call { callee := .builtin .append, args := #[s, x], argTypes := #[S, S] }) (B : Nat) (v : Value) (t : List Sp) (W : World) (p : Sp) (n1 n2 : Int) (h1 : n1 = p.1) (h2 : n2 = p.2)
    (hs : a.eval s = v) (hown : OwnN T B v t W) (g : Nat) (hx : a.eval x = .slice (some ⟨g, 0, none⟩) 1 1) (hg : g = W.heap.size) (hlen : t.length + 1 ≤ 2147483648) (hB : B ≤ W.heap.size)
    (h : ∀ v' w', OwnN T B v' (t ++ [p]) w' → Below B W w' → K (a.put o.dst v') w') : if Region.wanted o (yielded ops a.tmps) = true then Oper.wp Tryd.prog o a (W.alloc (.cells #[.int .i64 n1, .int .i64 n2] T)) K Q else E := by
  subst h1 h2 hg
  have hw : Region.wanted o (yielded ops a.tmps) = true := by simp [Region.wanted, hgd]
  rw [if_pos hw]
  obtain ⟨i0, hi, hz0, hz1, hz2⟩ := info_parts hinfo
  refine wp_append_own _ s x S ho B T i0 (.agg #[.int .i64 0, .int .i64 0]) 2 16 hund hi hz0 hz1 hz2 rfl (by decide) v t.length _ hs (World.ownsRow.alloc hown _) ⟨W.heap.size, 0, none⟩ 1 1 (encN1 p) hx rfl ?_ ?_ ?_ ?_ ?_ ?_
  · intro j u hj
    unfold encN1 at hj
    match j, hj with
    | 0, hj => simp at hj; subst hj; simp [Addr.add]
    | 1, hj => simp at hj; subst hj; simp [Addr.add]
  · intro u hu
    unfold encN1 at hu
    simp at hu
    rcases hu with rfl | rfl <;> rfl
  · unfold maxLen; omega
  · omega
  · simp; omega
  · intro v' w' h1 h2 _
    refine h v' w' ?_ (((Below.refl B W).alloc hB _).grown h2 (by simp; omega) (fun k hk => (World.ownsRow.lt hown k hk).1))
    unfold OwnN
    rw [encN_snoc, List.length_append]
    exact h1

theorem take_nthN' (t : List Sp) (k : Nat) (h : k < t.length) : t.take (k + 1) = t.take k ++ [nthN t k] := by
  unfold nthN
  rw [List.take_add_one, List.getElem?_eq_getElem h, List.getD_eq_getElem?_getD, List.getElem?_eq_getElem h]; rfl

set_option maxRecDepth 100000 in
set_option maxHeartbeats 4000000 in
theorem spans_any (v : Value) (t : List Sp) (w : World) (h : RdN v t w) (hl : t.length ≤ 16777216) :
    Calls Tryd.prog 6 #[v] w fun e w' => ∃ u, e = .returned u ∧ OwnN 44 w.heap.size u t w' ∧ Below w.heap.size w w' := by
  obtain ⟨a, c, rfl, h⟩ := h
  have HR : Hid (t = [] ∨ ∃ g o, a = some ⟨g, o, none⟩ ∧ t.length ≤ c ∧ ∀ j, j < t.length → w.cell? ⟨g, o + j * 2, none⟩ = some (.int .i64 (nthN t j).1) ∧ w.cell? ⟨g, o + j * 2 + 1, none⟩ = some (.int .i64 (nthN t j).2)) := h
  clear h
  go_enter Tryd.func6, Tryd.ntmps6
  go_wp2
  go_loopw [3, 4] (fun ov i wr => ∃ k : Nat, k ≤ t.length ∧ i = .int .i64 k ∧ Hid (OwnN 44 w.heap.size ov (t.take k) wr) ∧ Hid (Below w.heap.size w wr)) (fun _ i _ => t.length - (intOf i).toNat)
  case atStart => exact ⟨0, Nat.zero_le _, rfl, ownN_empty _ w (Nat.le_refl _), (Below.refl _ w).alloc (Nat.le_refl _) _⟩
  case round =>
    obtain ⟨k, hk, rfl, hown, hbl⟩ := hrel
    have hsz := hbl.out.size
    by_cases hlt : k < t.length
    · rcases HR.out with h | ⟨g, o, rfl, hc, hcell⟩
      · rw [h] at hlt; simp at hlt
      obtain ⟨c0, c1⟩ := hcell k hlt
      have hg : g < w.heap.size := World.block_lt_of_cell? w _ c0
      have d0 : wr.cell? ⟨g, o + k * 2, none⟩ = some (.int .i64 (nthN t k).1) := (hbl.out.cell (p := ⟨g, o + k * 2, none⟩) hg).trans c0
      have d1 : wr.cell? ⟨g, o + k * 2 + 1, none⟩ = some (.int .i64 (nthN t k).2) := (hbl.out.cell (p := ⟨g, o + k * 2 + 1, none⟩) hg).trans c1
      clear hcell c0 c1
      have HTk : Hid (t.take (k + 1) = t.take k ++ [nthN t k]) := take_nthN' t k hlt
      have hlk : (t.take k).length + 1 ≤ 2147483648 := by rw [List.length_take]; omega
      generalize nthN t k = p at *
      obtain ⟨x1, x2⟩ := p
      dsimp only at d0 d1
      have HO1 : Hid (OwnN 44 w.heap.size _ (t.take k) wr.drew) := hown.out.below (below_drewN (Below.refl _ _) 1)
      have HB1 : Hid (Below w.heap.size w wr.drew) := below_drewN hbl.out 1
      have hs1 : w.heap.size ≤ wr.drew.heap.size := hsz
      go_wp2_with fail
      go_region_law (refine step_appN 44 23 infoN2 Tryd.underlying23 rfl (.tmp 12) (.tmp 24) rfl w.heap.size _ (t.take k) _ (x1, x2) _ _ rfl rfl (by simp [Act.eval, Act.put]) HO1.out _ (by simp [Act.eval, Act.put]) rfl hlk hs1 ?_; intro v6 w6 hown6 hb6)
      all_goals
        have HO6 : Hid (OwnN 44 w.heap.size v6 (t.take (k + 1)) w6) := (by rw [HTk.out]; exact hown6 : OwnN 44 w.heap.size v6 (t.take (k + 1)) w6)
        have HB6 : Hid (Below w.heap.size w w6) := HB1.out.trans hb6
        clear hown6 hb6
        go_wp2
        go_roundw
        case rel => exact ⟨k + 1, by omega, by go_num, HO6, HB6⟩
        case measure => simp [intOf]; omega
    · obtain rfl : k = t.length := by omega
      rw [List.take_length] at hown
      go_wp2
      go_ret
      exact ⟨_, rfl, hown.out, hbl.out⟩

end Sn
end Go.Proofs.YtkaciaiooidohaaDoor

/-
  span: awake.
-/
set_option linter.unusedVariables false
set_option linter.unusedSimpArgs false
namespace Go.Proofs.YtkaciaiooidohaaDoor
open Go.RowKit Go.Shelf
namespace Sn
open Oc Tg Ac

set_option maxRecDepth 100000 in
set_option maxHeartbeats 1000000 in
theorem awake_any (w : World) (hw : ML w) :
    Calls Tryd.prog 9 #[] w fun e w' => e = .returned (.bool true) ∧ Below w.heap.size w w' := by
  have h := Parse_any (str [98, 121, 116, 101, 115, 61, 48, 45, 52]) (by decide +kernel) 10 (by omega) (by omega) w hw
  rw [show parR (str [98, 121, 116, 101, 115, 61, 48, 45, 52]).data.toList 10 = ([(0, 5)], 0) by decide +kernel] at h
  have HP : Hid (Calls Tryd.prog 11 #[.string ⟨#[98, 121, 116, 101, 115, 61, 48, 45, 52]⟩, .int .i64 10] w _) := h
  clear h
  have HC : Hid (∀ W, Calls Tryd.prog 21 #[.string ⟨#[104, 101, 108, 108, 111]⟩, .agg #[.int .i64 1, .int .i64 3]] W fun e w' => e = .returned (.tuple #[.string ⟨#[101, 108]⟩, .int .i64 0]) ∧ Below W.heap.size W w') := fun W => by
    have h := Cut_gr (str [104, 101, 108, 108, 111]) (by decide +kernel) 1 3 W
    rw [show cutR (str [104, 101, 108, 108, 111]).data.toList (1, 3) = ([101, 108], 0) by decide +kernel] at h
    exact h.mono fun e w' ⟨h1, h2⟩ => ⟨h1, Grew.below h2⟩
  clear hw
  have HEQ := fun y1 y2 w => eqN 0 5 y1 y2 w
  go_enter Tryd.func9, Tryd.ntmps9
  go_wp2_with fail
  refine HP.out.mono ?_
  rintro e w2 ⟨v, rfl, ho, hb2⟩
  have HB2 : Hid (Below w.heap.size w w2) := hb2
  have HR2 : Hid (RdN v [(0, 5)] w2) := ho.rd
  obtain ⟨va, vc, rfl⟩ := ho.form
  clear ho hb2
  go_wp2_with fail
  refine (HC.out _).mono ?_
  rintro e w3 ⟨rfl, hb3⟩
  have HB3 : Hid (Below w.heap.size w w3) := bel_trans HB2.out hb3
  obtain ⟨a', c', e', hcs⟩ := HR2.out.below hb3
  injection e' with e1 _ e2
  subst e1 e2
  rcases hcs with h | ⟨g, o, rfl, hlc, hcell⟩
  · cases h
  have p0 : w3.cell? ⟨g, o, none⟩ = some (.int .i64 0) := by simpa [nthN] using (hcell 0 (by decide)).1
  have p1 : w3.cell? ⟨g, o + 1, none⟩ = some (.int .i64 5) := by simpa [nthN] using (hcell 0 (by decide)).2
  clear hcell hb3 HR2
  go_wp2
  go_ret
  exact ⟨ret_bool (by simp), HB3.out⟩

end Sn
end Go.Proofs.YtkaciaiooidohaaDoor

/-
  A span that came in, by value.
-/
set_option linter.unusedVariables false
set_option linter.unusedSimpArgs false
namespace Go.Proofs.YtkaciaiooidohaaDoor
open Go.ChangeShapes Go.WideShapes Go.RowKit
namespace Sn

theorem cellsI : Tryd.prog.cellsOf 3 = 1 := by kernel_rfl
theorem cellsSp : Tryd.prog.cellsOf 43 = 2 := by kernel_rfl
theorem array2 {α : Type} {cs : Array α} (h : cs.size = 2) : ∃ c0 c1, cs = #[c0, c1] := by
  obtain ⟨l⟩ := cs
  match l, h with
  | [c0, c1], _ => exact ⟨c0, c1, rfl⟩
theorem list2 {α : Type} {cs : List α} (h : cs.length = 2) : ∃ c0 c1, cs = [c0, c1] := by
  match cs, h with
  | [c0, c1], _ => exact ⟨c0, c1, rfl⟩

set_option maxRecDepth 100000 in
theorem open_span {H : Type} {enc : TypeId × Value → H} {W : World} {base : Nat} {v : Value} {d : DataW H} {ps : List MemPlace} (hval : Value.okWide Tryd.prog W .any base 43 v)
    (h : DataW.Trod enc Tryd.prog W 0 (fun _ => true) true 43 v d ps) :
    ∃ (a b : Int), v = .agg #[.int .i64 a, .int .i64 b] ∧ d = .agg [.lit (.int .i64 a), .lit (.int .i64 b)] ∧ ps = [] ∧ (Lit.int .i64 a).wf = true ∧ (Lit.int .i64 b).wf = true := by
  obtain ⟨cs, rfl, hsz⟩ := okWide_struct Tryd.underlying43 hval
  obtain ⟨c0, c1, rfl⟩ := array2 (hsz.trans cellsSp)
  obtain ⟨fuel, hf⟩ := h
  obtain ⟨xs, n, _, hx, hl, hlen, hff⟩ := DataW.trod_struct Tryd.underlying43 hf
  obtain ⟨z0, z1, rfl⟩ := list2 (hlen.trans rfl)
  have f0 := hff 0 _ rfl
  have f1 := hff 1 _ rfl
  simp [Value.cells, cellsI] at f0 f1
  obtain ⟨a, e0, r0, w0⟩ := DataW.trod_int Tryd.underlying3 f0
  obtain ⟨b, e1, r1, w1⟩ := DataW.trod_int Tryd.underlying3 f1
  subst r0 r1
  simp at e0 e1 hx
  subst e0 e1
  exact ⟨a, b, rfl, hx.1, hx.2, w0, w1⟩
theorem shut_span {H : Type} {enc : TypeId × Value → H} {W : World} {base : Nat} {spare : Nat → Bool} {held : Bool} {a b : Int} (w0 : (Lit.int .i64 a).wf = true) (w1 : (Lit.int .i64 b).wf = true) :
    DataW.Trod enc Tryd.prog W base spare held 43 (.agg #[.int .i64 a, .int .i64 b]) (.agg [.lit (.int .i64 a), .lit (.int .i64 b)]) [] := by
  refine ⟨2, ?_⟩
  simp [DataW.trod, Value.cells, Tryd.underlying43, Tryd.underlying3, cellsI, cellsSp, w0, w1]

theorem i64_of_wf {x : Int} (h : (Lit.int .i64 x).wf = true) : -9223372036854775808 ≤ x ∧ x ≤ 9223372036854775807 := by
  simpa [Lit.wf, IntKind.min, IntKind.max, IntKind.signed, IntKind.bits] using h

end Sn
end Go.Proofs.YtkaciaiooidohaaDoor
