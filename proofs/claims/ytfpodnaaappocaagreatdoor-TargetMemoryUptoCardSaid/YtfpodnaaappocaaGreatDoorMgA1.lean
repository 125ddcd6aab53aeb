/- Several texts as one. -/
import Derived.Test.YtfpodnaaappocaaGreatDoorMgZ
import Derived.Test.YtfpodnaaappocaaGreatDoorMgU
import Derived.Test.YtfpodnaaappocaaGreatDoorMgQ
import Derived.RangeFuncCalls
import Derived.Test.YtfpodnaaappocaaGreatDoorMgY
import Derived.Test.YtfpodnaaappocaaGreatDoorMgX
import Derived.Test.YtfpodnaaappocaaGreatDoorMgM
/-
  target: Query.
-/
set_option linter.unusedVariables false
set_option linter.unusedSimpArgs false
namespace Go.Proofs.YtfpodnaaappocaaGreatDoor
open Go.RowKit Go.Shelf
attribute [local go_sem] Oper.semAt_some
namespace Tg
open Oc

def qs (k : List (List UInt8)) : List Prm := (k.filter fun z => decide (z ≠ [])).map pairR
def queryR (l : List UInt8) : List Prm × Nat × Int := if (chk queryOk 54 l).2 = 0 then (qs (splitB 38 l), 0, 0) else ([], (chk queryOk 54 l).1, (chk queryOk 54 l).2)
theorem qs_none (k : List (List UInt8)) (z : List UInt8) (h : z = []) : qs (k ++ [z]) = qs k := by
  unfold qs; rw [List.filter_append]; simp [h]
theorem qs_one (k : List (List UInt8)) (z : List UInt8) (h : z ≠ []) : qs (k ++ [z]) = qs k ++ [pairR z] := by
  unfold qs; rw [List.filter_append, List.map_append]; simp [h]
theorem qs_len (k : List (List UInt8)) : (qs k).length ≤ k.length := by
  unfold qs; rw [List.length_map]; exact List.length_filter_le _ _
theorem chk_zero (ok : UInt8 → Bool) (e : Int) (l : List UInt8) (he : e ≠ 0) (h : (chk ok e l).2 = 0) : (chk ok e l).1 = 0 := by
  unfold chk at *
  split at h
  · dsimp only at h; split at h <;> omega
  · rfl

theorem own_mono3 {w : World} {b b' : Nat} {e : TypeId} {v : Value} {n : Nat} {xs : List Value} (h : w.ownsRow b e 3 v n xs) (hb : b' ≤ b) : w.ownsRow b' e 3 v n xs :=
  ⟨h.1, h.2.imp id fun ⟨g, c, cur, e, hg, r⟩ => ⟨g, c, cur, e, Nat.le_trans hb hg, r⟩⟩
theorem coll3 {W w1 : World} {n₀ N B : Nat} {t e : TypeId} {v v' : Value} {k m : Nat} {xs ys : List Value} {tmp : Obj}
    (hv : Boxed W B t v) (hte : t ≠ e) (hrow : W.ownsRow N e 3 v k xs) (hn : n₀ ≤ N) (hN : N ≤ W.heap.size) (hB : n₀ ≤ B)
    (hown' : w1.ownsRow N e 3 v' m ys) (hgrow : (W.alloc tmp).grownBy w1 v.ownBlock) :
    Boxed w1 B t v ∧ Boxed (w1.setCell ⟨B, 0, none⟩ v') B t v' ∧ (w1.setCell ⟨B, 0, none⟩ v').ownsRow N e 3 v' m ys ∧ KeepsOthers W (w1.setCell ⟨B, 0, none⟩ v') ∧ Below n₀ W (w1.setCell ⟨B, 0, none⟩ v') ∧
    (∀ b, b < N → b ≠ B → Keep b W (w1.setCell ⟨B, 0, none⟩ v')) := by
  obtain ⟨hv1, hv2, _, hk2, hb2⟩ := hv.appended hte (own_mono3 hrow hn) (Nat.le_trans hn hN) hB (own_mono3 hown' hn) hgrow
  refine ⟨hv1, hv2, hown'.kept (grownBy_setCell' w1 B v') (.inr (hv1.not_row hte hown').symm), hk2, hb2, ?_⟩
  intro b hb hne
  have hbW : b < W.heap.size := Nat.lt_of_lt_of_le hb hN
  have h1 : some b ≠ v.ownBlock := by
    intro e'
    have := (hrow.lt b e'.symm).1
    omega
  exact ((grownBy_setCell' w1 B v').block b (Nat.lt_of_lt_of_le (by simpa using Nat.lt_succ_of_lt hbW) hgrow.size) (fun e => hne (Option.some.inj e))).trans ((hgrow.block b (by simpa using Nat.lt_succ_of_lt hbW) h1).trans (Below.heap_alloc _ _ _ hbW))
theorem OwnRow.below3 {B : Nat} {e : TypeId} {v : Value} {n : Nat} {xs : List Value} {w w' : World} (h : w.ownsRow B e 3 v n xs) (hb : Below w.heap.size w w') : w'.ownsRow B e 3 v n xs :=
  ⟨h.1, h.2.imp id fun ⟨g, c, cur, e, hg, hh, r⟩ => ⟨g, c, cur, e, hg, (hb.block g (Array.getElem?_eq_some_iff.1 hh).1).trans hh, r⟩⟩
theorem cell_three_new (W : World) (p : Prm) (n1 n2 : ByteArray) (b : Bool) (h1 : n1 = str p.1) (h2 : n2 = str p.2.1) (h3 : b = p.2.2) (t : TypeId) : ∀ (j : Nat) (u : Value), (encQ1 p)[j]? = some u → (W.alloc (.cells #[.string n1, .string n2, .bool b] t)).cell? ((⟨W.heap.size, 0, none⟩ : Addr).add j) = some u := by
  subst h1 h2 h3
  intro j u hj
  unfold encQ1 at hj
  match j, hj with
  | 0, hj => simp at hj; subst hj; simp [Addr.add]
  | 1, hj => simp at hj; subst hj; simp [Addr.add]
  | 2, hj => simp at hj; subst hj; simp [Addr.add]
theorem one_cells (p : Prm) : ∀ u ∈ encQ1 p, u.oneCell' = true := by
  intro u hu
  unfold encQ1 at hu
  simp at hu
  rcases hu with rfl | rfl | rfl <;> rfl

theorem stepIn_append {F : Fence} {nF : Nat} {P : Program} (w : World) {ops : Array Oper} {o : Oper} {a : Act} {K : Act → World → Prop} {Q : Exit → Act → World → Prop} {E : Prop} (hgd : o.guard = none) (s x : Operand) (t : TypeId)
    (ho : o.op = .call { callee := .builtin .append, args := #[s, x], argTypes := #[t, t] }) (v v' y : Value) (w' : World)
    (hrun : ∀ ty, ty = o.type → (Builtin.append_ #[t, t] ty #[v, y]).run P w = .ok v' w') (hs : a.eval s = v) (hx : a.eval x = y) (h : K (a.put o.dst v') w') :
    if Region.wanted o (yielded ops a.tmps) = true then Oper.wpIn F nF P o a w K Q else E := by
  have hw : Region.wanted o (yielded ops a.tmps) = true := by simp [Region.wanted, hgd]
  rw [if_pos hw]
  unfold Oper.wpIn
  refine ⟨by simp [Oper.about, ho, resolve, Target.leads, Sem.run_pure], ?_⟩
  rw [Oper.semAt_plain F _ _ (by rw [ho]; intro c hc'; cases hc')]
  simp [execOp, ho, resolve, invoke, builtin, hs, hx, hrun, Result.andThen]
  exact h

set_option maxRecDepth 100000 in
set_option maxHeartbeats 8000000 in
theorem Query_any (s : ByteArray) (hs : s.size ≤ 16777216) (w : World) (hm : ML w) :
    Calls Tryz.prog 7 #[.string s] w fun e w' => ∃ v, e = .returned (.tuple #[v, .int .i64 ((queryR s.data.toList).2.1 : Int), .int .i64 (queryR s.data.toList).2.2]) ∧ OwnQ 40 w.heap.size v (queryR s.data.toList).1 w' ∧ Below w.heap.size w w' := by
  obtain ⟨i1, hj, hy0, hy1, hy2⟩ := info_parts infoQ
  have HI : Hid (∀ w, _) := fun w => check_any s (by omega) 31 queryOk ok_query query37 54 w
  by_cases hp : (chk queryOk 54 s.data.toList).2 = 0
  · have hR : queryR s.data.toList = (qs (splitB 38 s.data.toList), 0, 0) := by unfold queryR; rw [if_pos hp]
    rw [hR]
    have hp1 := chk_zero queryOk 54 _ (by decide) hp
    rw [hp, hp1] at HI
    clear hR hp hp1
    dsimp only
    have HS : Hid (∀ w, _) := fun w => pieces_any s ⟨#[38]⟩ w
    refine (callsIn_wide (n := 9)).1 ?_
    refine callsIn_of_wp_marks Tryz.func7 rfl trivial ?_ rfl
    simp only [Tryz.ntmps7, List.size_toArray, List.length_cons, List.length_nil, Nat.reduceAdd, Nat.reduceSub, Array.replicate_succ, Array.replicate_zero, List.push_toArray, List.append_toArray, List.nil_append, List.cons_append]
    have hq : ∀ (k : Nat) (cs : Array Value) (W : World), (binOp .eql 51 (.func (.func k) #[] cs) .nilFunc).run Tryz.prog W = .ok (.bool false) W := fun k cs W => by kernel_rfl
    gi_wp2_with (refine ⟨trivial, ?_⟩; gi_at_call 20; refine (callsIn_wide.2 (HI.out _)).mono ?_; rintro e w1 ⟨rfl, hb1⟩)
    obtain ⟨w4, hw4⟩ : ∃ w4, w4 = ((w1.alloc (.cells #[.slice none 0 0] 33)).alloc (.cells #[.string s] 9)).alloc (.cells #[.string ⟨#[38]⟩] 9) := ⟨_, rfl⟩
    have hsz4 : w4.heap.size = w1.heap.size + 3 := by rw [hw4]; simp
    have b0 : Boxed w4 w1.heap.size 33 (.slice none 0 0) := by rw [hw4]; exact ((Boxed.new w1 _ _).alloc _).alloc _
    have b1 : w4.cell? ⟨w1.heap.size + 1, 0, none⟩ = some (.string s) := by rw [hw4]; have := ((Boxed.new (w1.alloc (.cells #[.slice none 0 0] 33)) 9 (.string s)).alloc (.cells #[.string ⟨#[38]⟩] 9)).cell; rwa [World.size_alloc] at this
    have b2 : w4.cell? ⟨w1.heap.size + 2, 0, none⟩ = some (.string ⟨#[38]⟩) := by rw [hw4]; have := (Boxed.new ((w1.alloc (.cells #[.slice none 0 0] 33)).alloc (.cells #[.string s] 9)) 9 (.string ⟨#[38]⟩)).cell; rwa [World.size_alloc, World.size_alloc] at this
    have hB4 : Below w1.heap.size w1 w4 := by
      rw [hw4]
      exact (((Below.refl _ w1).alloc (Nat.le_refl _) _).alloc (by simp) _).alloc (by simp; omega) _
    have hM4 : ML w4 := (hm.below hb1).below hB4
    have HW4 : Hid (_ = _) := hw4
    have hG := (hm.below hb1).lt
    clear hw4
    gi_wp2_with (refine ⟨trivial, ?_⟩; gi_at_call 21; refine (callsIn_wide.2 (HS.out _)).mono ?_; rintro e w3 ⟨rfl, e3⟩; have e4 := e3.trans HW4.out.symm; subst e4; clear e3)
    simp only [Nat.add_assoc, Nat.reduceAdd]
    clear HW4 HI HS
    have hb0 : Below w.heap.size w w3 := hb1.trans (hB4.mono hb1.size)
    have hn1 := hb1.size
    generalize hN : w1.heap.size = n1 at *
    refine wpIn_rangeFunc_ownG rfl (by omega) (gf := 41) (lb := #[.pointer (some ⟨n1 + 1, 0, none⟩), .pointer (some ⟨n1 + 2, 0, none⟩)]) rfl trivial (enters_of Tryz.func41 (by kernel_rfl) rfl)
      (pieces_stops 8 (n1 + 1) (n1 + 2) 38 s (by omega) _ hM4 b1 b2) keep3_t (keep3_b (by omega) (by omega) (by omega)) (Below.refl _ _) (fun _ => rfl)
      (fun (pre : List (Pz s.size)) W => (∃ v, Boxed W n1 33 v ∧ W.ownsRow (n1 + 3) 40 3 v (qs (pre.map Pz.z)).length (encQ (qs (pre.map Pz.z))) ∧ True) ∧ (Below w.heap.size w W ∧ n1 + 3 ≤ W.heap.size))
      (fun _ _ _ => False)
      (OwnFrom.and (Own.from (holdsRow_own (n1 + 3) n1 33 40 3 (fun pre : List (Pz s.size) => (qs (pre.map Pz.z)).length) (fun pre => encQ (qs (pre.map Pz.z))) (fun _ _ => True)) _) (OwnFrom.and (ownFrom_below (Nat.le_refl _) (by omega)) (fun _ _ _ _ h hg _ => Nat.le_trans h hg.size)))
      (fun _ _ _ _ _ hs _ _ => hs)
      ⟨⟨_, b0, World.ownsRow_nil _ _ _ _, trivial⟩, hb0, by omega⟩
      (fun x : Pz s.size => { tmps := #[.string s, undef, .slice none 0 0, .int .i64 0, .int .i64 0, .int .i64 0, .int .i64 0, .pointer (some ⟨n1, 0, none⟩), .string (str x.z), .tuple #[.int .i64 0, .int .i64 0], .string s, .tuple #[.int .i64 0, .int .i64 0], .int .i64 0, .int .i64 0, .int .i64 0, .bool false, undef, undef, .string s, .func (.func 41) #[] #[.pointer (some ⟨n1 + 1, 0, none⟩), .pointer (some ⟨n1 + 2, 0, none⟩)], .string (str x.z), undef, undef, undef, undef, undef, undef, undef, undef], defers := [] }) ?assign ?body ?done ?stop
    case assign =>
      intro l x W K hK
      unfold encP
      gi_wp2
      exact hK
    case body =>
      rintro l pre x W ⟨⟨v, hv, hrow, _⟩, hB, hS⟩ hlt
      have hxl := x.le
      by_cases hz : x.z = []
      · have hX : str x.z = ⟨#[]⟩ := by rw [hz]; rfl
        have hQ : qs ((pre ++ [x]).map Pz.z) = qs (pre.map Pz.z) := by rw [List.map_append]; exact qs_none _ _ hz
        rw [hX]
        gi_wp2
        refine ⟨(KeepsOthers.refl _).from _, ⟨Keep.refl _ _, Keep.refl _ _, Keep.refl _ _⟩, ⟨_, hv, ?_, trivial⟩, hB, hS⟩
        rw [hQ]
        exact hrow
      · have hQ : qs ((pre ++ [x]).map Pz.z) = qs (pre.map Pz.z) ++ [pairR x.z] := by rw [List.map_append]; exact qs_one _ _ hz
        have hXn : (str x.z).toList.isEmpty = false := by
          rw [ByteArray.toList_eq, str_list]
          cases h : x.z with
          | nil => exact absurd h hz
          | cons => rfl
        have hXt : (!(str x.z).toList.isEmpty) = true := by rw [hXn]; rfl
        have hM : ML W := hm.below hB
        have HD : Hid (∀ W, ML W → Calls Tryz.prog 22 #[.string (str x.z)] W fun e W' => e = .returned (.agg #[.string (str (pairR x.z).1), .string (str (pairR x.z).2.1), .bool (pairR x.z).2.2]) ∧ Below W.heap.size W W') := fun W h => by
          have := readPair_any (str x.z) (by rw [str_size]; omega) W h
          rw [str_list] at this
          exact this
        have hql := qs_len (pre.map Pz.z)
        rw [List.length_map] at hql
        have hlv : ∃ a c, v = .slice a (qs (pre.map Pz.z)).length c := by
          rcases hrow.2 with ⟨rfl, e⟩ | ⟨g, c, _, rfl, _⟩
          · exact ⟨none, 0, by rw [e]⟩
          · exact ⟨_, c, rfl⟩
        obtain ⟨av, cv, rfl⟩ := hlv
        generalize str x.z = X at *
        generalize hP : pairR x.z = P at *
        generalize hY1 : str P.1 = Y1 at *
        generalize hY2 : str P.2.1 = Y2 at *
        generalize hY3 : P.2.2 = Y3 at *
        generalize qs (pre.map Pz.z) = qq at *
        have hvd : Boxed W.drew n1 33 (.slice av qq.length cv) := hv
        have hrd : W.drew.ownsRow (n1 + 3) 40 3 (.slice av qq.length cv) qq.length (encQ qq) := hrow
        have hMd : ML W.drew := hM
        have hkd : KeepsOthers W W.drew := KeepsOthers.drew W
        have hBd : Below w.heap.size w W.drew := hB.drew
        have hSd : n1 + 3 ≤ W.drew.heap.size := hS
        have hKd : ∀ b, Keep b W W.drew := fun b => rfl
        have hcd := hvd.cell
        gi_wp2
        refine wpIn_region_any (by kernel_rfl) ?_
        try (change wpAnyIn _ _ _ _ _ _ _ _ _ (World.drew _))
        refine wpAnyIn_ready (rs := [0, 1]) (by kernel_rfl) (by simp) ?_
        refine AllReadyIn.cons rfl (fun K hK => ?_) ?_
        · skip
          go_simp
          refine hK _ _ ?_
          clear hK K
          refine wpAnyIn_ready (rs := [1]) (by kernel_rfl) (by simp) ?_
          refine AllReadyIn.cons rfl (fun K hK => ?_) ?_
          · skip
            go_simp
            refine hK _ _ ?_
            clear hK K
            refine wpAnyIn_ready (rs := [2]) (by kernel_rfl) (by simp) ?_
            refine AllReadyIn.cons rfl (fun K hK => ?_) ?_
            · skip
              go_simp
              gi_wp2_with (refine ⟨trivial, ?_⟩; gi_at_call 22; refine ((callsIn_wide.2 (HD.out _ hMd)).inRound l).mono ?_; rintro e W1 ⟨rfl, k1⟩; have hv1 := box_below hvd k1 hvd.lt; have hr1 := OwnRow.below3 hrd k1; have hs1 := k1.size; have hc := hv1.cell; have hca := (hv1.alloc (.cells #[.string Y1, .string Y2, .bool Y3] 40)).cell; have hk1 : KeepsOthers W W1 := hkd.trans (Fr.of_below (b := 0) k1 (Nat.le_refl _)).others)
              try (refine hK _ _ ?_; clear hK K)
              refine wpAnyIn_ready (rs := [3]) (by kernel_rfl) (by simp) ?_
              refine AllReadyIn.cons rfl (fun K hK => ?_) ?_
              · skip
                go_simp
                refine hK _ _ ?_
                clear hK K
                refine wpAnyIn_ready (rs := [4]) (by kernel_rfl) (by simp) ?_
                refine AllReadyIn.cons rfl (fun K hK => ?_) ?_
                · skip
                  obtain ⟨v', w5, hrun, hown', hgrow, _⟩ := run_append_own (P := Tryz.prog) (W1.alloc (.cells #[.string Y1, .string Y2, .bool Y3] 40)) (n1 + 3) 33 33 40 i1 (.agg #[.string ⟨#[]⟩, .string ⟨#[]⟩, .bool false]) 3 40 Tryz.underlying33 hj hy0 hy1 hy2 rfl (by decide) _ _ _ (hr1.alloc _) ⟨W1.heap.size, 0, none⟩ 1 1 (encQ1 P) rfl (cell_three_new _ P _ _ _ hY1.symm hY2.symm hY3.symm _) (one_cells P) (by unfold maxLen; omega) (by omega) (by simp; omega)
                  obtain ⟨g', cap', rfl⟩ := ownsRow_succ hown'
                  obtain ⟨hv2, hv3, hr3, hk3, hb3, hkp⟩ := coll3 (n₀ := n1) hv1 (by decide) hr1 (by omega) (by omega) (Nat.le_refl _) hown' hgrow
                  have hc2 := hv2.cell
                  have hf2 := hv2.frozen
                  refine stepIn_append _ rfl (.tmp 23) (.tmp 26) 33 rfl _ _ _ _ (fun ty e => by subst e; exact hrun) rfl rfl ?_
                  refine hK _ _ ?_
                  clear hK K
                  refine wpAnyIn_ready (rs := [5]) (by kernel_rfl) (by simp) ?_
                  refine AllReadyIn.cons rfl (fun K hK => ?_) ?_
                  · skip
                    go_simp
                    refine hK _ _ ?_
                    clear hK K
                    refine wpAnyIn_done (by kernel_rfl) ?_ _
                    gi_wp2
                    have hG1 : 0 < n1 := hG
                    refine ⟨(hk1.trans hk3).from _, ⟨(Keep.below k1 (by omega)).trans (hkp _ (by omega) (by omega)), (Keep.below k1 (by omega)).trans (hkp _ (by omega) (by omega)), (Keep.below k1 (by omega)).trans (hkp _ (by omega) (by omega))⟩, ⟨_, hv3, ?_, trivial⟩, hBd.trans ((k1.mono (by omega)).trans (hb3.mono (by omega))), Nat.le_trans hSd (Nat.le_trans hs1 hk3.size)⟩
                    rw [hQ, encQ_snoc, List.length_append]
                    exact hr3
                  exact AllReadyIn.nil
                exact AllReadyIn.nil
              exact AllReadyIn.nil
            exact AllReadyIn.nil
          exact AllReadyIn.nil
        refine AllReadyIn.cons rfl (fun K hK => ?_) ?_
        · skip
          go_simp
          refine hK _ _ ?_
          clear hK K
          refine wpAnyIn_ready (rs := [0, 2]) (by kernel_rfl) (by simp) ?_
          refine AllReadyIn.cons rfl (fun K hK => ?_) ?_
          · skip
            go_simp
            refine hK _ _ ?_
            clear hK K
            refine wpAnyIn_ready (rs := [2]) (by kernel_rfl) (by simp) ?_
            refine AllReadyIn.cons rfl (fun K hK => ?_) ?_
            · skip
              go_simp
              gi_wp2_with (refine ⟨trivial, ?_⟩; gi_at_call 22; refine ((callsIn_wide.2 (HD.out _ hMd)).inRound l).mono ?_; rintro e W1 ⟨rfl, k1⟩; have hv1 := box_below hvd k1 hvd.lt; have hr1 := OwnRow.below3 hrd k1; have hs1 := k1.size; have hc := hv1.cell; have hca := (hv1.alloc (.cells #[.string Y1, .string Y2, .bool Y3] 40)).cell; have hk1 : KeepsOthers W W1 := hkd.trans (Fr.of_below (b := 0) k1 (Nat.le_refl _)).others)
              try (refine hK _ _ ?_; clear hK K)
              refine wpAnyIn_ready (rs := [3]) (by kernel_rfl) (by simp) ?_
              refine AllReadyIn.cons rfl (fun K hK => ?_) ?_
              · skip
                go_simp
                refine hK _ _ ?_
                clear hK K
                refine wpAnyIn_ready (rs := [4]) (by kernel_rfl) (by simp) ?_
                refine AllReadyIn.cons rfl (fun K hK => ?_) ?_
                · skip
                  obtain ⟨v', w5, hrun, hown', hgrow, _⟩ := run_append_own (P := Tryz.prog) (W1.alloc (.cells #[.string Y1, .string Y2, .bool Y3] 40)) (n1 + 3) 33 33 40 i1 (.agg #[.string ⟨#[]⟩, .string ⟨#[]⟩, .bool false]) 3 40 Tryz.underlying33 hj hy0 hy1 hy2 rfl (by decide) _ _ _ (hr1.alloc _) ⟨W1.heap.size, 0, none⟩ 1 1 (encQ1 P) rfl (cell_three_new _ P _ _ _ hY1.symm hY2.symm hY3.symm _) (one_cells P) (by unfold maxLen; omega) (by omega) (by simp; omega)
                  obtain ⟨g', cap', rfl⟩ := ownsRow_succ hown'
                  obtain ⟨hv2, hv3, hr3, hk3, hb3, hkp⟩ := coll3 (n₀ := n1) hv1 (by decide) hr1 (by omega) (by omega) (Nat.le_refl _) hown' hgrow
                  have hc2 := hv2.cell
                  have hf2 := hv2.frozen
                  refine stepIn_append _ rfl (.tmp 23) (.tmp 26) 33 rfl _ _ _ _ (fun ty e => by subst e; exact hrun) rfl rfl ?_
                  refine hK _ _ ?_
                  clear hK K
                  refine wpAnyIn_ready (rs := [5]) (by kernel_rfl) (by simp) ?_
                  refine AllReadyIn.cons rfl (fun K hK => ?_) ?_
                  · skip
                    go_simp
                    refine hK _ _ ?_
                    clear hK K
                    refine wpAnyIn_done (by kernel_rfl) ?_ _
                    gi_wp2
                    have hG1 : 0 < n1 := hG
                    refine ⟨(hk1.trans hk3).from _, ⟨(Keep.below k1 (by omega)).trans (hkp _ (by omega) (by omega)), (Keep.below k1 (by omega)).trans (hkp _ (by omega) (by omega)), (Keep.below k1 (by omega)).trans (hkp _ (by omega) (by omega))⟩, ⟨_, hv3, ?_, trivial⟩, hBd.trans ((k1.mono (by omega)).trans (hb3.mono (by omega))), Nat.le_trans hSd (Nat.le_trans hs1 hk3.size)⟩
                    rw [hQ, encQ_snoc, List.length_append]
                    exact hr3
                  exact AllReadyIn.nil
                exact AllReadyIn.nil
              exact AllReadyIn.nil
            exact AllReadyIn.nil
          refine AllReadyIn.cons rfl (fun K hK => ?_) ?_
          · skip
            go_simp
            gi_wp2_with (refine ⟨trivial, ?_⟩; gi_at_call 22; refine ((callsIn_wide.2 (HD.out _ hMd)).inRound l).mono ?_; rintro e W1 ⟨rfl, k1⟩; have hv1 := box_below hvd k1 hvd.lt; have hr1 := OwnRow.below3 hrd k1; have hs1 := k1.size; have hc := hv1.cell; have hca := (hv1.alloc (.cells #[.string Y1, .string Y2, .bool Y3] 40)).cell; have hk1 : KeepsOthers W W1 := hkd.trans (Fr.of_below (b := 0) k1 (Nat.le_refl _)).others)
            try (refine hK _ _ ?_; clear hK K)
            refine wpAnyIn_ready (rs := [0, 3]) (by kernel_rfl) (by simp) ?_
            refine AllReadyIn.cons rfl (fun K hK => ?_) ?_
            · skip
              go_simp
              refine hK _ _ ?_
              clear hK K
              refine wpAnyIn_ready (rs := [3]) (by kernel_rfl) (by simp) ?_
              refine AllReadyIn.cons rfl (fun K hK => ?_) ?_
              · skip
                go_simp
                refine hK _ _ ?_
                clear hK K
                refine wpAnyIn_ready (rs := [4]) (by kernel_rfl) (by simp) ?_
                refine AllReadyIn.cons rfl (fun K hK => ?_) ?_
                · skip
                  obtain ⟨v', w5, hrun, hown', hgrow, _⟩ := run_append_own (P := Tryz.prog) (W1.alloc (.cells #[.string Y1, .string Y2, .bool Y3] 40)) (n1 + 3) 33 33 40 i1 (.agg #[.string ⟨#[]⟩, .string ⟨#[]⟩, .bool false]) 3 40 Tryz.underlying33 hj hy0 hy1 hy2 rfl (by decide) _ _ _ (hr1.alloc _) ⟨W1.heap.size, 0, none⟩ 1 1 (encQ1 P) rfl (cell_three_new _ P _ _ _ hY1.symm hY2.symm hY3.symm _) (one_cells P) (by unfold maxLen; omega) (by omega) (by simp; omega)
                  obtain ⟨g', cap', rfl⟩ := ownsRow_succ hown'
                  obtain ⟨hv2, hv3, hr3, hk3, hb3, hkp⟩ := coll3 (n₀ := n1) hv1 (by decide) hr1 (by omega) (by omega) (Nat.le_refl _) hown' hgrow
                  have hc2 := hv2.cell
                  have hf2 := hv2.frozen
                  refine stepIn_append _ rfl (.tmp 23) (.tmp 26) 33 rfl _ _ _ _ (fun ty e => by subst e; exact hrun) rfl rfl ?_
                  refine hK _ _ ?_
                  clear hK K
                  refine wpAnyIn_ready (rs := [5]) (by kernel_rfl) (by simp) ?_
                  refine AllReadyIn.cons rfl (fun K hK => ?_) ?_
                  · skip
                    go_simp
                    refine hK _ _ ?_
                    clear hK K
                    refine wpAnyIn_done (by kernel_rfl) ?_ _
                    gi_wp2
                    have hG1 : 0 < n1 := hG
                    refine ⟨(hk1.trans hk3).from _, ⟨(Keep.below k1 (by omega)).trans (hkp _ (by omega) (by omega)), (Keep.below k1 (by omega)).trans (hkp _ (by omega) (by omega)), (Keep.below k1 (by omega)).trans (hkp _ (by omega) (by omega))⟩, ⟨_, hv3, ?_, trivial⟩, hBd.trans ((k1.mono (by omega)).trans (hb3.mono (by omega))), Nat.le_trans hSd (Nat.le_trans hs1 hk3.size)⟩
                    rw [hQ, encQ_snoc, List.length_append]
                    exact hr3
                  exact AllReadyIn.nil
                exact AllReadyIn.nil
              exact AllReadyIn.nil
            refine AllReadyIn.cons rfl (fun K hK => ?_) ?_
            · skip
              go_simp
              refine hK _ _ ?_
              clear hK K
              refine wpAnyIn_ready (rs := [0]) (by kernel_rfl) (by simp) ?_
              refine AllReadyIn.cons rfl (fun K hK => ?_) ?_
              · skip
                go_simp
                refine hK _ _ ?_
                clear hK K
                refine wpAnyIn_ready (rs := [4]) (by kernel_rfl) (by simp) ?_
                refine AllReadyIn.cons rfl (fun K hK => ?_) ?_
                · skip
                  obtain ⟨v', w5, hrun, hown', hgrow, _⟩ := run_append_own (P := Tryz.prog) (W1.alloc (.cells #[.string Y1, .string Y2, .bool Y3] 40)) (n1 + 3) 33 33 40 i1 (.agg #[.string ⟨#[]⟩, .string ⟨#[]⟩, .bool false]) 3 40 Tryz.underlying33 hj hy0 hy1 hy2 rfl (by decide) _ _ _ (hr1.alloc _) ⟨W1.heap.size, 0, none⟩ 1 1 (encQ1 P) rfl (cell_three_new _ P _ _ _ hY1.symm hY2.symm hY3.symm _) (one_cells P) (by unfold maxLen; omega) (by omega) (by simp; omega)
                  obtain ⟨g', cap', rfl⟩ := ownsRow_succ hown'
                  obtain ⟨hv2, hv3, hr3, hk3, hb3, hkp⟩ := coll3 (n₀ := n1) hv1 (by decide) hr1 (by omega) (by omega) (Nat.le_refl _) hown' hgrow
                  have hc2 := hv2.cell
                  have hf2 := hv2.frozen
                  refine stepIn_append _ rfl (.tmp 23) (.tmp 26) 33 rfl _ _ _ _ (fun ty e => by subst e; exact hrun) rfl rfl ?_
                  refine hK _ _ ?_
                  clear hK K
                  refine wpAnyIn_ready (rs := [5]) (by kernel_rfl) (by simp) ?_
                  refine AllReadyIn.cons rfl (fun K hK => ?_) ?_
                  · skip
                    go_simp
                    refine hK _ _ ?_
                    clear hK K
                    refine wpAnyIn_done (by kernel_rfl) ?_ _
                    gi_wp2
                    have hG1 : 0 < n1 := hG
                    refine ⟨(hk1.trans hk3).from _, ⟨(Keep.below k1 (by omega)).trans (hkp _ (by omega) (by omega)), (Keep.below k1 (by omega)).trans (hkp _ (by omega) (by omega)), (Keep.below k1 (by omega)).trans (hkp _ (by omega) (by omega))⟩, ⟨_, hv3, ?_, trivial⟩, hBd.trans ((k1.mono (by omega)).trans (hb3.mono (by omega))), Nat.le_trans hSd (Nat.le_trans hs1 hk3.size)⟩
                    rw [hQ, encQ_snoc, List.length_append]
                    exact hr3
                  exact AllReadyIn.nil
                exact AllReadyIn.nil
              exact AllReadyIn.nil
            exact AllReadyIn.nil
          exact AllReadyIn.nil
        exact AllReadyIn.nil
    case done =>
      rintro D ys W hD hys ⟨⟨v, hv, hrow, _⟩, hB, hS⟩ hK
      have hc := hv.cell
      gi_wp2
      refine ⟨by simp, .inl ⟨_, _, rfl, run_takeDeferred hK, ?_⟩⟩
      refine ⟨.tuple #[v, .int .i64 0, .int .i64 0], by simp [results, Tryz.results7, go_sem], v, rfl, ?_, below_put hB (by omega) _⟩
      rw [← hys]
      unfold OwnQ
      exact own_mono3 (ownsRow_putObj hrow _ hK rfl) (by omega)
    case stop =>
      rintro D c pre W _ _ h _
      exact h.elim
  · have hR : queryR s.data.toList = ([], (chk queryOk 54 s.data.toList).1, (chk queryOk 54 s.data.toList).2) := by unfold queryR; rw [if_neg hp]
    rw [hR]
    dsimp only
    generalize chk queryOk 54 s.data.toList = c at *
    obtain ⟨c1, c2⟩ := c
    dsimp only at *
    have hne : (c2 != 0) = true := by simpa using hp
    clear hR
    go_enter Tryz.func7, Tryz.ntmps7
    go_wp2_with fail
    refine (HI.out _).mono ?_
    rintro e w1 ⟨rfl, hb⟩
    go_wp2
    exact bodyPost_ret (v := .tuple #[.slice none 0 0, .int .i64 (c1 : Int), .int .i64 c2]) (by simp [results, Tryz.results7, go_sem]) rfl ⟨_, rfl, ownQ_nil _ _ _, hb⟩

end Tg
end Go.Proofs.YtfpodnaaappocaaGreatDoor

/-
  The document's Segments (written by mktme.py out of WNormal).
-/
set_option linter.unusedVariables false
set_option linter.unusedSimpArgs false
namespace Go.Proofs.YtfpodnaaappocaaGreatDoor
open Go.RowKit Go.Shelf
namespace Tg
open Oc

def turned (L : List (List UInt8)) (k : Nat) : List (List UInt8) := (L.take k).map decT ++ L.drop k
theorem turned_len (L : List (List UInt8)) (k : Nat) : (turned L k).length = L.length := by
  unfold turned; rw [List.length_append, List.length_map, List.length_take, List.length_drop]; omega
theorem turned_get (L : List (List UInt8)) (k : Nat) (h : k < L.length) : (turned L k).getD k [] = L.getD k [] := by
  unfold turned
  have e : ((L.take k).map decT).length = k := by rw [List.length_map, List.length_take]; omega
  rw [List.getD_eq_getElem?_getD, List.getElem?_append_right (by omega), e, Nat.sub_self, List.getElem?_drop, Nat.add_zero, List.getD_eq_getElem?_getD]
theorem turned_succ (L : List (List UInt8)) (k : Nat) (h : k < L.length) : turned L (k + 1) = (turned L k).set k (decT (L.getD k [])) := by
  unfold turned
  have e : ((L.take k).map decT).length = k := by rw [List.length_map, List.length_take]; omega
  rw [List.set_append, if_neg (by rw [e]; omega), e, Nat.sub_self, List.take_succ_eq_append_getElem h, List.map_append, List.append_assoc, List.drop_eq_getElem_cons h, List.set_cons_zero, List.getD_eq_getElem?_getD, List.getElem?_eq_getElem h]
  rfl

set_option maxRecDepth 100000 in
set_option maxHeartbeats 4000000 in
theorem rSegments_any (s : ByteArray) (hs : s.size ≤ 1300000) (w : World) :
    Calls Tryz.prog 4 #[.string s] w fun e w' => ∃ v, e = .returned (.tuple #[v, .int .i64 (segR s.data.toList).2]) ∧ OwnS w.heap.size v (segR s.data.toList).1 w' ∧ Below w.heap.size w w' := by
  have HI : Hid (∀ w, _) := fun w => rIsPath_any s (by omega) w
  cases hp : isPath s.data.toList with
  | false =>
    have hR : segR s.data.toList = ([], 53) := by unfold segR; rw [hp]; rfl
    rw [hR]
    rw [hp] at HI
    have HE : Hid (_) := ownS_empty w
    clear hR hp
    go_enter Tryz.func4, Tryz.ntmps4
    go_wp2_with fail
    refine (HI.out _).mono ?_
    rintro e w1 ⟨rfl, rfl⟩
    go_wp2
    go_ret2
    exact ⟨_, rfl, HE.out, (Below.refl _ _).alloc (Nat.le_refl _) _⟩
  | true =>
    have hR : segR s.data.toList = ((segs s.data.toList).map decT, 0) := by unfold segR; rw [hp]; rfl
    rw [hR]
    rw [hp] at HI
    have h1 : 1 ≤ s.size := by
      have := path_head hp
      rw [← size_list]
      cases h : s.data.toList with
      | nil => rw [h] at this; cases this
      | cons c t => simp
    have hex : (s.extract 1 s.size).data.toList = s.data.toList.drop 1 := by rw [ext_list, List.take_of_length_le (by rw [List.length_drop, size_list]; omega)]
    have hes : (s.extract 1 s.size).size ≤ 1300000 := by rw [← size_list, hex, List.length_drop, size_list]; omega
    have hseg : splitB 47 (s.extract 1 s.size).data.toList = segs s.data.toList := by rw [hex]; rfl
    have HS : Hid (∀ w, Calls Tryz.prog 13 #[.string (s.extract 1 s.size), .int .u8 47] w fun e w' => ∃ v, e = .returned v ∧ OwnS w.heap.size v (segs s.data.toList) w' ∧ Below w.heap.size w w') := fun w => by
      rw [← hseg]
      exact rsplit_any (s.extract 1 s.size) (by omega) 47 w
    have hLl : (segs s.data.toList).length ≤ 1300001 := by
      have := split_len 47 (s.data.toList.drop 1)
      rw [List.length_drop, size_list] at this
      unfold segs
      omega
    have hLz : ∀ z ∈ segs s.data.toList, z.length ≤ 1300000 := by
      intro z hz
      have h1 := join_splitB (s.data.toList.drop 1)
      have h2 : z.length + 1 ≤ (joinS (splitB 47 (s.data.toList.drop 1))).length := by
        unfold segs at hz
        unfold joinS
        obtain ⟨u, v, e⟩ := List.append_of_mem hz
        rw [e]
        simp
        omega
      rw [h1, List.length_cons, List.length_drop, size_list] at h2
      omega
    have hne := segs_ne s.data.toList
    clear hR hp hex hseg
    generalize segs s.data.toList = L at *
    have HLz : Hid (∀ z ∈ L, z.length ≤ 1300000) := hLz
    clear hLz
    go_enter Tryz.func4, Tryz.ntmps4
    go_wp2_with fail
    refine (HI.out _).mono ?_
    rintro e w1 ⟨rfl, rfl⟩
    go_wp2_with fail
    refine (HS.out _).mono ?_
    rintro e w3 ⟨v4, rfl, ho4, hb3⟩
    have HB3 : Hid (_) := hb3
    have hL0 : 0 < L.length := List.length_pos_iff.2 hne
    obtain ⟨a4, c4, rfl⟩ := ho4.form
    obtain ⟨g4, rfl, hc4, _⟩ := ho4.cell 0 hL0
    have hgl : w1.heap.size ≤ g4 := by
      rcases ho4.2 with ⟨e, _⟩ | ⟨g, c, cur, e, hg, _⟩
      · cases e
      · injection e with e1; injection e1 with e1; injection e1 with e1; omega
    have HO4 : Hid (OwnS w1.heap.size (.slice (some ⟨g4, 0, none⟩) L.length c4) (turned L 0) w3) := by
      show OwnS _ _ _ _
      have : turned L 0 = L := by unfold turned; simp
      rw [this]
      exact ho4
    clear ho4 hb3
    go_wp2
    go_loopw [5] (fun i wr => ∃ k : Nat, k ≤ L.length ∧ i = .int .i64 k ∧ Hid (OwnS w1.heap.size (.slice (some ⟨g4, 0, none⟩) L.length c4) (turned L k) wr) ∧ Hid (Below w1.heap.size w1 wr)) (fun i _ => L.length - (intOf i).toNat)
    case atStart => exact ⟨0, Nat.zero_le _, rfl, HO4, HB3⟩
    case round =>
      obtain ⟨k, hk, rfl, hown, hbl⟩ := hrel
      have hsz := hbl.out.size
      by_cases hlt : k < L.length
      · have hol := hown.out
        have htl := turned_len L k
        rw [← htl] at hol
        obtain ⟨g', e', _, hcell⟩ := hol.cell k (by omega)
        injection e' with e'
        injection e' with e1
        subst e1
        rw [turned_get L k hlt] at hcell
        have hzl : (L.getD k []).length ≤ 1300000 := HLz.out _ (by rw [List.getD_eq_getElem?_getD, List.getElem?_eq_getElem hlt]; exact List.getElem_mem _)
        have HD : Hid (∀ W, Calls Tryz.prog 14 #[.string (str (L.getD k []))] W fun e W' => e = .returned (.tuple #[.string (str (decT (L.getD k []))), .int .i64 ((decR (L.getD k [])).2.1 : Int), .int .i64 (decR (L.getD k [])).2.2]) ∧ Below W.heap.size W W') := fun W => by
          have := rDecode_any (str (L.getD k [])) (by rw [str_size]; omega) W
          rw [str_list] at this
          exact this
        have HTS : Hid (_) := turned_succ L k hlt
        generalize hZ : L.getD k [] = z at *
        generalize hX : str z = X at *
        generalize ((decR z).2.1 : Int) = q1 at *
        generalize (decR z).2.2 = q2 at *
        have HOL : Hid (OwnS w1.heap.size (.slice (some ⟨g4, 0, none⟩) L.length c4) (turned L k) wr) := hown
        clear hol hown
        go_wp2_with (go_at_call 14; refine (HD.out _).mono ?_; rintro e w5 ⟨rfl, k5⟩; have ho5 := HOL.out.below k5; have hr5 : w5.ownsRow w1.heap.size 9 1 (.slice (some ⟨g4, 0, none⟩) L.length c4) L.length (encL (turned L k)) := (by unfold OwnS at ho5; rw [htl] at ho5; exact ho5); have hf5 := owns_free hr5 k; have hc5 : w5.cell? ⟨g4, k, none⟩ = some (.string X) := (k5.cell (p := ⟨g4, k, none⟩) (cell_lt hcell)).trans hcell)
        have hst := owns_set (c := k) hr5 (.string (str (decT z)))
        have HST : Hid (OwnS w1.heap.size (.slice (some ⟨g4, 0, none⟩) L.length c4) (turned L (k + 1)) (w5.setCell ⟨g4, k, none⟩ (.string (str (decT z))))) := by
          show OwnS _ _ _ _
          unfold OwnS
          rw [turned_len, HTS.out]
          have : encL ((turned L k).set k (decT z)) = (encL (turned L k)).set k (.string (str (decT z))) := by unfold encL; rw [List.map_set]
          rw [this]
          exact hst
        have HBL2 : Hid (Below w1.heap.size w1 (w5.setCell ⟨g4, k, none⟩ (.string (str (decT z))))) := (hbl.out.trans (k5.mono hsz)).setCell (p := ⟨g4, k, none⟩) hgl _
        go_roundw
        case rel => exact ⟨k + 1, by omega, by go_num, HST, HBL2⟩
        case measure => simp [intOf]; omega
      · obtain rfl : k = L.length := by omega
        have HF : Hid (OwnS w1.heap.size (.slice (some ⟨g4, 0, none⟩) L.length c4) (L.map decT) wr) := by
          have : turned L L.length = L.map decT := by unfold turned; simp
          rw [← this]
          exact hown.out
        go_wp2
        go_ret2
        exact ⟨_, rfl, HF.out, hbl.out⟩

theorem segR_len (l : List UInt8) : (segR l).1.length ≤ l.length + 1 := by
  unfold segR
  split
  · dsimp only
    rw [List.length_map]
    have := split_len 47 (l.drop 1)
    rw [List.length_drop] at this
    unfold segs
    omega
  · simp
theorem queryR_len (l : List UInt8) : (queryR l).1.length ≤ l.length + 1 := by
  unfold queryR
  split
  · exact Nat.le_trans (qs_len _) (split_len 38 l)
  · exact Nat.zero_le _

end Tg
end Go.Proofs.YtfpodnaaappocaaGreatDoor
