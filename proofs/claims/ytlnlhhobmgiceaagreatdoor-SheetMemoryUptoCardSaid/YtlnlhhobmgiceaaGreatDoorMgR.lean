/- Several texts as one. -/
import Derived.Test.YtlnlhhobmgiceaaGreatDoorMgQ
import Derived.Test.YtlnlhhobmgiceaaGreatDoorMgP
import Derived.Test.YtlnlhhobmgiceaaGreatDoorMgM
import Derived.RangeFuncCalls
import Derived.Test.YtlnlhhobmgiceaaGreatDoorMgN
/-
  target: Query.
-/
set_option linter.unusedVariables false
set_option linter.unusedSimpArgs false
namespace Go.Proofs.YtlnlhhobmgiceaaGreatDoor
open Go.RowKit Go.Shelf
attribute [local go_sem] Oper.semAt_some
namespace Tg
open Oc

def qs (k : List (List UInt8)) : List Prm := (k.filter fun z => decide (z ≠ [])).map pairR
def queryR (l : List UInt8) : List Prm × Nat × Int := if (chk queryOk 54 l).2 = 0 then (qs (splitB 38 l), 0, 0) else ([], (chk queryOk 54 l).1, (chk queryOk 54 l).2)
theorem qs_none (k : List (List UInt8)) (z : List UInt8) (h : z = []) : qs (k ++ [z]) = qs k := by
  unfold qs; rw [List.filter_append]; simp [h]
theorem qs_one (k : List (List UInt8)) (z : List UInt8) (h : z ≠ []) : qs (k ++ [z]) = qs k ++ [pairR z] := by
  unfold qs; rw [List.filter_append, List.map_append]; simp [h]
theorem qs_len (k : List (List UInt8)) : (qs k).length ≤ k.length := by
  unfold qs; rw [List.length_map]; exact List.length_filter_le _ _
theorem chk_zero (ok : UInt8 → Bool) (e : Int) (l : List UInt8) (he : e ≠ 0) (h : (chk ok e l).2 = 0) : (chk ok e l).1 = 0 := by
  unfold chk at *
  split at h
  · dsimp only at h; split at h <;> omega
  · rfl

theorem own_mono3 {w : World} {b b' : Nat} {e : TypeId} {v : Value} {n : Nat} {xs : List Value} (h : w.ownsRow b e 3 v n xs) (hb : b' ≤ b) : w.ownsRow b' e 3 v n xs :=
  ⟨h.1, h.2.imp id fun ⟨g, c, cur, e, hg, r⟩ => ⟨g, c, cur, e, Nat.le_trans hb hg, r⟩⟩
theorem coll3 {W w1 : World} {n₀ N B : Nat} {t e : TypeId} {v v' : Value} {k m : Nat} {xs ys : List Value} {tmp : Obj}
    (hv : Boxed W B t v) (hte : t ≠ e) (hrow : W.ownsRow N e 3 v k xs) (hn : n₀ ≤ N) (hN : N ≤ W.heap.size) (hB : n₀ ≤ B)
    (hown' : w1.ownsRow N e 3 v' m ys) (hgrow : (W.alloc tmp).grownBy w1 v.ownBlock) :
    Boxed w1 B t v ∧ Boxed (w1.setCell ⟨B, 0, none⟩ v') B t v' ∧ (w1.setCell ⟨B, 0, none⟩ v').ownsRow N e 3 v' m ys ∧ KeepsOthers W (w1.setCell ⟨B, 0, none⟩ v') ∧ Below n₀ W (w1.setCell ⟨B, 0, none⟩ v') ∧
    (∀ b, b < N → b ≠ B → Keep b W (w1.setCell ⟨B, 0, none⟩ v')) := by
  obtain ⟨hv1, hv2, _, hk2, hb2⟩ := hv.appended hte (own_mono3 hrow hn) (Nat.le_trans hn hN) hB (own_mono3 hown' hn) hgrow
  refine ⟨hv1, hv2, hown'.kept (grownBy_setCell' w1 B v') (.inr (hv1.not_row hte hown').symm), hk2, hb2, ?_⟩
  intro b hb hne
  have hbW : b < W.heap.size := Nat.lt_of_lt_of_le hb hN
  have h1 : some b ≠ v.ownBlock := by
    intro e'
    have := (hrow.lt b e'.symm).1
    omega
  exact ((grownBy_setCell' w1 B v').block b (Nat.lt_of_lt_of_le (by simpa using Nat.lt_succ_of_lt hbW) hgrow.size) (fun e => hne (Option.some.inj e))).trans ((hgrow.block b (by simpa using Nat.lt_succ_of_lt hbW) h1).trans (Below.heap_alloc _ _ _ hbW))
theorem OwnRow.below3 {B : Nat} {e : TypeId} {v : Value} {n : Nat} {xs : List Value} {w w' : World} (h : w.ownsRow B e 3 v n xs) (hb : Below w.heap.size w w') : w'.ownsRow B e 3 v n xs :=
  ⟨h.1, h.2.imp id fun ⟨g, c, cur, e, hg, hh, r⟩ => ⟨g, c, cur, e, hg, (hb.block g (Array.getElem?_eq_some_iff.1 hh).1).trans hh, r⟩⟩
theorem cell_three_new (W : World) (p : Prm) (n1 n2 : ByteArray) (b : Bool) (h1 : n1 = str p.1) (h2 : n2 = str p.2.1) (h3 : b = p.2.2) (t : TypeId) : ∀ (j : Nat) (u : Value), (encQ1 p)[j]? = some u → (W.alloc (.cells #[.string n1, .string n2, .bool b] t)).cell? ((⟨W.heap.size, 0, none⟩ : Addr).add j) = some u := by
  subst h1 h2 h3
  intro j u hj
  unfold encQ1 at hj
  match j, hj with
  | 0, hj => simp at hj; subst hj; simp [Addr.add]
  | 1, hj => simp at hj; subst hj; simp [Addr.add]
  | 2, hj => simp at hj; subst hj; simp [Addr.add]
theorem one_cells (p : Prm) : ∀ u ∈ encQ1 p, u.oneCell' = true := by
  intro u hu
  unfold encQ1 at hu
  simp at hu
  rcases hu with rfl | rfl | rfl <;> rfl

theorem stepIn_append {F : Fence} {nF : Nat} {P : Program} (w : World) {ops : Array Oper} {o : Oper} {a : Act} {K : Act → World → Prop} {Q : Exit → Act → World → Prop} {E : Prop} (hgd : o.guard = none) (s x : Operand) (t : TypeId)
    (ho : o.op = .call { callee := .builtin .append, args := #[s, x], argTypes := #[t, t] }) (v v' y : Value) (w' : World)
    (hrun : ∀ ty, ty = o.type → (Builtin.append_ #[t, t] ty #[v, y]).run P w = .ok v' w') (hs : a.eval s = v) (hx : a.eval x = y) (h : K (a.put o.dst v') w') :
    if Region.wanted o (yielded ops a.tmps) = true then Oper.wpIn F nF P o a w K Q else E := by
  have hw : Region.wanted o (yielded ops a.tmps) = true := by simp [Region.wanted, hgd]
  rw [if_pos hw]
  unfold Oper.wpIn
  refine ⟨by simp [Oper.about, ho, resolve, Target.leads, Sem.run_pure], ?_⟩
  rw [Oper.semAt_plain F _ _ (by rw [ho]; intro c hc'; cases hc')]
  simp [execOp, ho, resolve, invoke, builtin, hs, hx, hrun, Result.andThen]
  exact h

set_option maxRecDepth 100000 in
set_option maxHeartbeats 8000000 in
theorem Query_any (s : ByteArray) (hs : s.size ≤ 16777216) (w : World) (hm : ML w) :
    Calls Tryz.prog 25 #[.string s] w fun e w' => ∃ v, e = .returned (.tuple #[v, .int .i64 ((queryR s.data.toList).2.1 : Int), .int .i64 (queryR s.data.toList).2.2]) ∧ OwnQ 47 w.heap.size v (queryR s.data.toList).1 w' ∧ Below w.heap.size w w' := by
  obtain ⟨i1, hj, hy0, hy1, hy2⟩ := info_parts infoQ
  have HI : Hid (∀ w, _) := fun w => check_any s (by omega) 31 queryOk ok_query query37 54 w
  by_cases hp : (chk queryOk 54 s.data.toList).2 = 0
  · have hR : queryR s.data.toList = (qs (splitB 38 s.data.toList), 0, 0) := by unfold queryR; rw [if_pos hp]
    rw [hR]
    have hp1 := chk_zero queryOk 54 _ (by decide) hp
    rw [hp, hp1] at HI
    clear hR hp hp1
    dsimp only
    have HS : Hid (∀ w, _) := fun w => pieces_any s ⟨#[38]⟩ w
    refine (callsIn_wide (n := 9)).1 ?_
    refine callsIn_of_wp_marks Tryz.func25 rfl trivial ?_ rfl
    simp only [Tryz.ntmps25, List.size_toArray, List.length_cons, List.length_nil, Nat.reduceAdd, Nat.reduceSub, Array.replicate_succ, Array.replicate_zero, List.push_toArray, List.append_toArray, List.nil_append, List.cons_append]
    have hq : ∀ (k : Nat) (cs : Array Value) (W : World), (binOp .eql 104 (.func (.func k) #[] cs) .nilFunc).run Tryz.prog W = .ok (.bool false) W := fun k cs W => by kernel_rfl
    gi_wp2_with (refine ⟨trivial, ?_⟩; gi_at_call 55; refine (callsIn_wide.2 (HI.out _)).mono ?_; rintro e w1 ⟨rfl, hb1⟩)
    obtain ⟨w4, hw4⟩ : ∃ w4, w4 = ((w1.alloc (.cells #[.slice none 0 0] 34)).alloc (.cells #[.string s] 9)).alloc (.cells #[.string ⟨#[38]⟩] 9) := ⟨_, rfl⟩
    have hsz4 : w4.heap.size = w1.heap.size + 3 := by rw [hw4]; simp
    have b0 : Boxed w4 w1.heap.size 34 (.slice none 0 0) := by rw [hw4]; exact ((Boxed.new w1 _ _).alloc _).alloc _
    have b1 : w4.cell? ⟨w1.heap.size + 1, 0, none⟩ = some (.string s) := by rw [hw4]; have := ((Boxed.new (w1.alloc (.cells #[.slice none 0 0] 34)) 9 (.string s)).alloc (.cells #[.string ⟨#[38]⟩] 9)).cell; rwa [World.size_alloc] at this
    have b2 : w4.cell? ⟨w1.heap.size + 2, 0, none⟩ = some (.string ⟨#[38]⟩) := by rw [hw4]; have := (Boxed.new ((w1.alloc (.cells #[.slice none 0 0] 34)).alloc (.cells #[.string s] 9)) 9 (.string ⟨#[38]⟩)).cell; rwa [World.size_alloc, World.size_alloc] at this
    have hB4 : Below w1.heap.size w1 w4 := by
      rw [hw4]
      exact (((Below.refl _ w1).alloc (Nat.le_refl _) _).alloc (by simp) _).alloc (by simp; omega) _
    have hM4 : ML w4 := (hm.below hb1).below hB4
    have HW4 : Hid (_ = _) := hw4
    have hG := (hm.below hb1).lt
    clear hw4
    gi_wp2_with (refine ⟨trivial, ?_⟩; gi_at_call 56; refine (callsIn_wide.2 (HS.out _)).mono ?_; rintro e w3 ⟨rfl, e3⟩; have e4 := e3.trans HW4.out.symm; subst e4; clear e3)
    simp only [Nat.add_assoc, Nat.reduceAdd]
    clear HW4 HI HS
    have hb0 : Below w.heap.size w w3 := hb1.trans (hB4.mono hb1.size)
    have hn1 := hb1.size
    generalize hN : w1.heap.size = n1 at *
    refine wpIn_rangeFunc_ownG rfl (by omega) (gf := 83) (lb := #[.pointer (some ⟨n1 + 1, 0, none⟩), .pointer (some ⟨n1 + 2, 0, none⟩)]) rfl trivial (enters_of Tryz.func83 (by kernel_rfl) rfl)
      (pieces_stops 8 (n1 + 1) (n1 + 2) 38 s (by omega) _ hM4 b1 b2) keep3_t (keep3_b (by omega) (by omega) (by omega)) (Below.refl _ _) (fun _ => rfl)
      (fun (pre : List (Pz s.size)) W => (∃ v, Boxed W n1 34 v ∧ W.ownsRow (n1 + 3) 47 3 v (qs (pre.map Pz.z)).length (encQ (qs (pre.map Pz.z))) ∧ True) ∧ (Below w.heap.size w W ∧ n1 + 3 ≤ W.heap.size))
      (fun _ _ _ => False)
      (OwnFrom.and (Own.from (holdsRow_own (n1 + 3) n1 34 47 3 (fun pre : List (Pz s.size) => (qs (pre.map Pz.z)).length) (fun pre => encQ (qs (pre.map Pz.z))) (fun _ _ => True)) _) (OwnFrom.and (ownFrom_below (Nat.le_refl _) (by omega)) (fun _ _ _ _ h hg _ => Nat.le_trans h hg.size)))
      (fun _ _ _ _ _ hs _ _ => hs)
      ⟨⟨_, b0, World.ownsRow_nil _ _ _ _, trivial⟩, hb0, by omega⟩
      (fun x : Pz s.size => { tmps := #[.string s, undef, .slice none 0 0, .int .i64 0, .int .i64 0, .int .i64 0, .int .i64 0, .pointer (some ⟨n1, 0, none⟩), .string (str x.z), .tuple #[.int .i64 0, .int .i64 0], .string s, .tuple #[.int .i64 0, .int .i64 0], .int .i64 0, .int .i64 0, .int .i64 0, .bool false, undef, undef, .string s, .func (.func 83) #[] #[.pointer (some ⟨n1 + 1, 0, none⟩), .pointer (some ⟨n1 + 2, 0, none⟩)], .string (str x.z), undef, undef, undef, undef, undef, undef, undef, undef], defers := [] }) ?assign ?body ?done ?stop
    case assign =>
      intro l x W K hK
      unfold encP
      gi_wp2
      exact hK
    case body =>
      rintro l pre x W ⟨⟨v, hv, hrow, _⟩, hB, hS⟩ hlt
      have hxl := x.le
      by_cases hz : x.z = []
      · have hX : str x.z = ⟨#[]⟩ := by rw [hz]; rfl
        have hQ : qs ((pre ++ [x]).map Pz.z) = qs (pre.map Pz.z) := by rw [List.map_append]; exact qs_none _ _ hz
        rw [hX]
        gi_wp2
        refine ⟨(KeepsOthers.refl _).from _, ⟨Keep.refl _ _, Keep.refl _ _, Keep.refl _ _⟩, ⟨_, hv, ?_, trivial⟩, hB, hS⟩
        rw [hQ]
        exact hrow
      · have hQ : qs ((pre ++ [x]).map Pz.z) = qs (pre.map Pz.z) ++ [pairR x.z] := by rw [List.map_append]; exact qs_one _ _ hz
        have hXn : (str x.z).toList.isEmpty = false := by
          rw [ByteArray.toList_eq, str_list]
          cases h : x.z with
          | nil => exact absurd h hz
          | cons => rfl
        have hXt : (!(str x.z).toList.isEmpty) = true := by rw [hXn]; rfl
        have hM : ML W := hm.below hB
        have HD : Hid (∀ W, ML W → Calls Tryz.prog 57 #[.string (str x.z)] W fun e W' => e = .returned (.agg #[.string (str (pairR x.z).1), .string (str (pairR x.z).2.1), .bool (pairR x.z).2.2]) ∧ Below W.heap.size W W') := fun W h => by
          have := readPair_any (str x.z) (by rw [str_size]; omega) W h
          rw [str_list] at this
          exact this
        have hql := qs_len (pre.map Pz.z)
        rw [List.length_map] at hql
        have hlv : ∃ a c, v = .slice a (qs (pre.map Pz.z)).length c := by
          rcases hrow.2 with ⟨rfl, e⟩ | ⟨g, c, _, rfl, _⟩
          · exact ⟨none, 0, by rw [e]⟩
          · exact ⟨_, c, rfl⟩
        obtain ⟨av, cv, rfl⟩ := hlv
        generalize str x.z = X at *
        generalize hP : pairR x.z = P at *
        generalize hY1 : str P.1 = Y1 at *
        generalize hY2 : str P.2.1 = Y2 at *
        generalize hY3 : P.2.2 = Y3 at *
        generalize qs (pre.map Pz.z) = qq at *
        have hvd : Boxed W.drew n1 34 (.slice av qq.length cv) := hv
        have hrd : W.drew.ownsRow (n1 + 3) 47 3 (.slice av qq.length cv) qq.length (encQ qq) := hrow
        have hMd : ML W.drew := hM
        have hkd : KeepsOthers W W.drew := KeepsOthers.drew W
        have hBd : Below w.heap.size w W.drew := hB.drew
        have hSd : n1 + 3 ≤ W.drew.heap.size := hS
        have hKd : ∀ b, Keep b W W.drew := fun b => rfl
        have hcd := hvd.cell
        gi_wp2
        refine wpIn_region_any (by kernel_rfl) ?_
        try (change wpAnyIn _ _ _ _ _ _ _ _ _ (World.drew _))
        refine wpAnyIn_ready (rs := [0, 1]) (by kernel_rfl) (by simp) ?_
        refine AllReadyIn.cons rfl (fun K hK => ?_) ?_
        · skip
          go_simp
          refine hK _ _ ?_
          clear hK K
          refine wpAnyIn_ready (rs := [1]) (by kernel_rfl) (by simp) ?_
          refine AllReadyIn.cons rfl (fun K hK => ?_) ?_
          · skip
            go_simp
            refine hK _ _ ?_
            clear hK K
            refine wpAnyIn_ready (rs := [2]) (by kernel_rfl) (by simp) ?_
            refine AllReadyIn.cons rfl (fun K hK => ?_) ?_
            · skip
              go_simp
              gi_wp2_with (refine ⟨trivial, ?_⟩; gi_at_call 57; refine ((callsIn_wide.2 (HD.out _ hMd)).inRound l).mono ?_; rintro e W1 ⟨rfl, k1⟩; have hv1 := box_below hvd k1 hvd.lt; have hr1 := OwnRow.below3 hrd k1; have hs1 := k1.size; have hc := hv1.cell; have hca := (hv1.alloc (.cells #[.string Y1, .string Y2, .bool Y3] 47)).cell; have hk1 : KeepsOthers W W1 := hkd.trans (Fr.of_below (b := 0) k1 (Nat.le_refl _)).others)
              try (refine hK _ _ ?_; clear hK K)
              refine wpAnyIn_ready (rs := [3]) (by kernel_rfl) (by simp) ?_
              refine AllReadyIn.cons rfl (fun K hK => ?_) ?_
              · skip
                go_simp
                refine hK _ _ ?_
                clear hK K
                refine wpAnyIn_ready (rs := [4]) (by kernel_rfl) (by simp) ?_
                refine AllReadyIn.cons rfl (fun K hK => ?_) ?_
                · skip
                  obtain ⟨v', w5, hrun, hown', hgrow, _⟩ := run_append_own (P := Tryz.prog) (W1.alloc (.cells #[.string Y1, .string Y2, .bool Y3] 47)) (n1 + 3) 34 34 47 i1 (.agg #[.string ⟨#[]⟩, .string ⟨#[]⟩, .bool false]) 3 40 Tryz.underlying34 hj hy0 hy1 hy2 rfl (by decide) _ _ _ (hr1.alloc _) ⟨W1.heap.size, 0, none⟩ 1 1 (encQ1 P) rfl (cell_three_new _ P _ _ _ hY1.symm hY2.symm hY3.symm _) (one_cells P) (by unfold maxLen; omega) (by omega) (by simp; omega)
                  obtain ⟨g', cap', rfl⟩ := ownsRow_succ hown'
                  obtain ⟨hv2, hv3, hr3, hk3, hb3, hkp⟩ := coll3 (n₀ := n1) hv1 (by decide) hr1 (by omega) (by omega) (Nat.le_refl _) hown' hgrow
                  have hc2 := hv2.cell
                  have hf2 := hv2.frozen
                  refine stepIn_append _ rfl (.tmp 23) (.tmp 26) 34 rfl _ _ _ _ (fun ty e => by subst e; exact hrun) rfl rfl ?_
                  refine hK _ _ ?_
                  clear hK K
                  refine wpAnyIn_ready (rs := [5]) (by kernel_rfl) (by simp) ?_
                  refine AllReadyIn.cons rfl (fun K hK => ?_) ?_
                  · skip
                    go_simp
                    refine hK _ _ ?_
                    clear hK K
                    refine wpAnyIn_done (by kernel_rfl) ?_ _
                    gi_wp2
                    have hG1 : 1 < n1 := hG
                    refine ⟨(hk1.trans hk3).from _, ⟨(Keep.below k1 (by omega)).trans (hkp _ (by omega) (by omega)), (Keep.below k1 (by omega)).trans (hkp _ (by omega) (by omega)), (Keep.below k1 (by omega)).trans (hkp _ (by omega) (by omega))⟩, ⟨_, hv3, ?_, trivial⟩, hBd.trans ((k1.mono (by omega)).trans (hb3.mono (by omega))), Nat.le_trans hSd (Nat.le_trans hs1 hk3.size)⟩
                    rw [hQ, encQ_snoc, List.length_append]
                    exact hr3
                  exact AllReadyIn.nil
                exact AllReadyIn.nil
              exact AllReadyIn.nil
            exact AllReadyIn.nil
          exact AllReadyIn.nil
        refine AllReadyIn.cons rfl (fun K hK => ?_) ?_
        · skip
          go_simp
          refine hK _ _ ?_
          clear hK K
          refine wpAnyIn_ready (rs := [0, 2]) (by kernel_rfl) (by simp) ?_
          refine AllReadyIn.cons rfl (fun K hK => ?_) ?_
          · skip
            go_simp
            refine hK _ _ ?_
            clear hK K
            refine wpAnyIn_ready (rs := [2]) (by kernel_rfl) (by simp) ?_
            refine AllReadyIn.cons rfl (fun K hK => ?_) ?_
            · skip
              go_simp
              gi_wp2_with (refine ⟨trivial, ?_⟩; gi_at_call 57; refine ((callsIn_wide.2 (HD.out _ hMd)).inRound l).mono ?_; rintro e W1 ⟨rfl, k1⟩; have hv1 := box_below hvd k1 hvd.lt; have hr1 := OwnRow.below3 hrd k1; have hs1 := k1.size; have hc := hv1.cell; have hca := (hv1.alloc (.cells #[.string Y1, .string Y2, .bool Y3] 47)).cell; have hk1 : KeepsOthers W W1 := hkd.trans (Fr.of_below (b := 0) k1 (Nat.le_refl _)).others)
              try (refine hK _ _ ?_; clear hK K)
              refine wpAnyIn_ready (rs := [3]) (by kernel_rfl) (by simp) ?_
              refine AllReadyIn.cons rfl (fun K hK => ?_) ?_
              · skip
                go_simp
                refine hK _ _ ?_
                clear hK K
                refine wpAnyIn_ready (rs := [4]) (by kernel_rfl) (by simp) ?_
                refine AllReadyIn.cons rfl (fun K hK => ?_) ?_
                · skip
                  obtain ⟨v', w5, hrun, hown', hgrow, _⟩ := run_append_own (P := Tryz.prog) (W1.alloc (.cells #[.string Y1, .string Y2, .bool Y3] 47)) (n1 + 3) 34 34 47 i1 (.agg #[.string ⟨#[]⟩, .string ⟨#[]⟩, .bool false]) 3 40 Tryz.underlying34 hj hy0 hy1 hy2 rfl (by decide) _ _ _ (hr1.alloc _) ⟨W1.heap.size, 0, none⟩ 1 1 (encQ1 P) rfl (cell_three_new _ P _ _ _ hY1.symm hY2.symm hY3.symm _) (one_cells P) (by unfold maxLen; omega) (by omega) (by simp; omega)
                  obtain ⟨g', cap', rfl⟩ := ownsRow_succ hown'
                  obtain ⟨hv2, hv3, hr3, hk3, hb3, hkp⟩ := coll3 (n₀ := n1) hv1 (by decide) hr1 (by omega) (by omega) (Nat.le_refl _) hown' hgrow
                  have hc2 := hv2.cell
                  have hf2 := hv2.frozen
                  refine stepIn_append _ rfl (.tmp 23) (.tmp 26) 34 rfl _ _ _ _ (fun ty e => by subst e; exact hrun) rfl rfl ?_
                  refine hK _ _ ?_
                  clear hK K
                  refine wpAnyIn_ready (rs := [5]) (by kernel_rfl) (by simp) ?_
                  refine AllReadyIn.cons rfl (fun K hK => ?_) ?_
                  · skip
                    go_simp
                    refine hK _ _ ?_
                    clear hK K
                    refine wpAnyIn_done (by kernel_rfl) ?_ _
                    gi_wp2
                    have hG1 : 1 < n1 := hG
                    refine ⟨(hk1.trans hk3).from _, ⟨(Keep.below k1 (by omega)).trans (hkp _ (by omega) (by omega)), (Keep.below k1 (by omega)).trans (hkp _ (by omega) (by omega)), (Keep.below k1 (by omega)).trans (hkp _ (by omega) (by omega))⟩, ⟨_, hv3, ?_, trivial⟩, hBd.trans ((k1.mono (by omega)).trans (hb3.mono (by omega))), Nat.le_trans hSd (Nat.le_trans hs1 hk3.size)⟩
                    rw [hQ, encQ_snoc, List.length_append]
                    exact hr3
                  exact AllReadyIn.nil
                exact AllReadyIn.nil
              exact AllReadyIn.nil
            exact AllReadyIn.nil
          refine AllReadyIn.cons rfl (fun K hK => ?_) ?_
          · skip
            go_simp
            gi_wp2_with (refine ⟨trivial, ?_⟩; gi_at_call 57; refine ((callsIn_wide.2 (HD.out _ hMd)).inRound l).mono ?_; rintro e W1 ⟨rfl, k1⟩; have hv1 := box_below hvd k1 hvd.lt; have hr1 := OwnRow.below3 hrd k1; have hs1 := k1.size; have hc := hv1.cell; have hca := (hv1.alloc (.cells #[.string Y1, .string Y2, .bool Y3] 47)).cell; have hk1 : KeepsOthers W W1 := hkd.trans (Fr.of_below (b := 0) k1 (Nat.le_refl _)).others)
            try (refine hK _ _ ?_; clear hK K)
            refine wpAnyIn_ready (rs := [0, 3]) (by kernel_rfl) (by simp) ?_
            refine AllReadyIn.cons rfl (fun K hK => ?_) ?_
            · skip
              go_simp
              refine hK _ _ ?_
              clear hK K
              refine wpAnyIn_ready (rs := [3]) (by kernel_rfl) (by simp) ?_
              refine AllReadyIn.cons rfl (fun K hK => ?_) ?_
              · skip
                go_simp
                refine hK _ _ ?_
                clear hK K
                refine wpAnyIn_ready (rs := [4]) (by kernel_rfl) (by simp) ?_
                refine AllReadyIn.cons rfl (fun K hK => ?_) ?_
                · skip
                  obtain ⟨v', w5, hrun, hown', hgrow, _⟩ := run_append_own (P := Tryz.prog) (W1.alloc (.cells #[.string Y1, .string Y2, .bool Y3] 47)) (n1 + 3) 34 34 47 i1 (.agg #[.string ⟨#[]⟩, .string ⟨#[]⟩, .bool false]) 3 40 Tryz.underlying34 hj hy0 hy1 hy2 rfl (by decide) _ _ _ (hr1.alloc _) ⟨W1.heap.size, 0, none⟩ 1 1 (encQ1 P) rfl (cell_three_new _ P _ _ _ hY1.symm hY2.symm hY3.symm _) (one_cells P) (by unfold maxLen; omega) (by omega) (by simp; omega)
                  obtain ⟨g', cap', rfl⟩ := ownsRow_succ hown'
                  obtain ⟨hv2, hv3, hr3, hk3, hb3, hkp⟩ := coll3 (n₀ := n1) hv1 (by decide) hr1 (by omega) (by omega) (Nat.le_refl _) hown' hgrow
                  have hc2 := hv2.cell
                  have hf2 := hv2.frozen
                  refine stepIn_append _ rfl (.tmp 23) (.tmp 26) 34 rfl _ _ _ _ (fun ty e => by subst e; exact hrun) rfl rfl ?_
                  refine hK _ _ ?_
                  clear hK K
                  refine wpAnyIn_ready (rs := [5]) (by kernel_rfl) (by simp) ?_
                  refine AllReadyIn.cons rfl (fun K hK => ?_) ?_
                  · skip
                    go_simp
                    refine hK _ _ ?_
                    clear hK K
                    refine wpAnyIn_done (by kernel_rfl) ?_ _
                    gi_wp2
                    have hG1 : 1 < n1 := hG
                    refine ⟨(hk1.trans hk3).from _, ⟨(Keep.below k1 (by omega)).trans (hkp _ (by omega) (by omega)), (Keep.below k1 (by omega)).trans (hkp _ (by omega) (by omega)), (Keep.below k1 (by omega)).trans (hkp _ (by omega) (by omega))⟩, ⟨_, hv3, ?_, trivial⟩, hBd.trans ((k1.mono (by omega)).trans (hb3.mono (by omega))), Nat.le_trans hSd (Nat.le_trans hs1 hk3.size)⟩
                    rw [hQ, encQ_snoc, List.length_append]
                    exact hr3
                  exact AllReadyIn.nil
                exact AllReadyIn.nil
              exact AllReadyIn.nil
            refine AllReadyIn.cons rfl (fun K hK => ?_) ?_
            · skip
              go_simp
              refine hK _ _ ?_
              clear hK K
              refine wpAnyIn_ready (rs := [0]) (by kernel_rfl) (by simp) ?_
              refine AllReadyIn.cons rfl (fun K hK => ?_) ?_
              · skip
                go_simp
                refine hK _ _ ?_
                clear hK K
                refine wpAnyIn_ready (rs := [4]) (by kernel_rfl) (by simp) ?_
                refine AllReadyIn.cons rfl (fun K hK => ?_) ?_
                · skip
                  obtain ⟨v', w5, hrun, hown', hgrow, _⟩ := run_append_own (P := Tryz.prog) (W1.alloc (.cells #[.string Y1, .string Y2, .bool Y3] 47)) (n1 + 3) 34 34 47 i1 (.agg #[.string ⟨#[]⟩, .string ⟨#[]⟩, .bool false]) 3 40 Tryz.underlying34 hj hy0 hy1 hy2 rfl (by decide) _ _ _ (hr1.alloc _) ⟨W1.heap.size, 0, none⟩ 1 1 (encQ1 P) rfl (cell_three_new _ P _ _ _ hY1.symm hY2.symm hY3.symm _) (one_cells P) (by unfold maxLen; omega) (by omega) (by simp; omega)
                  obtain ⟨g', cap', rfl⟩ := ownsRow_succ hown'
                  obtain ⟨hv2, hv3, hr3, hk3, hb3, hkp⟩ := coll3 (n₀ := n1) hv1 (by decide) hr1 (by omega) (by omega) (Nat.le_refl _) hown' hgrow
                  have hc2 := hv2.cell
                  have hf2 := hv2.frozen
                  refine stepIn_append _ rfl (.tmp 23) (.tmp 26) 34 rfl _ _ _ _ (fun ty e => by subst e; exact hrun) rfl rfl ?_
                  refine hK _ _ ?_
                  clear hK K
                  refine wpAnyIn_ready (rs := [5]) (by kernel_rfl) (by simp) ?_
                  refine AllReadyIn.cons rfl (fun K hK => ?_) ?_
                  · skip
                    go_simp
                    refine hK _ _ ?_
                    clear hK K
                    refine wpAnyIn_done (by kernel_rfl) ?_ _
                    gi_wp2
                    have hG1 : 1 < n1 := hG
                    refine ⟨(hk1.trans hk3).from _, ⟨(Keep.below k1 (by omega)).trans (hkp _ (by omega) (by omega)), (Keep.below k1 (by omega)).trans (hkp _ (by omega) (by omega)), (Keep.below k1 (by omega)).trans (hkp _ (by omega) (by omega))⟩, ⟨_, hv3, ?_, trivial⟩, hBd.trans ((k1.mono (by omega)).trans (hb3.mono (by omega))), Nat.le_trans hSd (Nat.le_trans hs1 hk3.size)⟩
                    rw [hQ, encQ_snoc, List.length_append]
                    exact hr3
                  exact AllReadyIn.nil
                exact AllReadyIn.nil
              exact AllReadyIn.nil
            exact AllReadyIn.nil
          exact AllReadyIn.nil
        exact AllReadyIn.nil
    case done =>
      rintro D ys W hD hys ⟨⟨v, hv, hrow, _⟩, hB, hS⟩ hK
      have hc := hv.cell
      gi_wp2
      refine ⟨by simp, .inl ⟨_, _, rfl, run_takeDeferred hK, ?_⟩⟩
      refine ⟨.tuple #[v, .int .i64 0, .int .i64 0], by simp [results, Tryz.results25, go_sem], v, rfl, ?_, below_put hB (by omega) _⟩
      rw [← hys]
      unfold OwnQ
      exact own_mono3 (ownsRow_putObj hrow _ hK rfl) (by omega)
    case stop =>
      rintro D c pre W _ _ h _
      exact h.elim
  · have hR : queryR s.data.toList = ([], (chk queryOk 54 s.data.toList).1, (chk queryOk 54 s.data.toList).2) := by unfold queryR; rw [if_neg hp]
    rw [hR]
    dsimp only
    generalize chk queryOk 54 s.data.toList = c at *
    obtain ⟨c1, c2⟩ := c
    dsimp only at *
    have hne : (c2 != 0) = true := by simpa using hp
    clear hR
    go_enter Tryz.func25, Tryz.ntmps25
    go_wp2_with fail
    refine (HI.out _).mono ?_
    rintro e w1 ⟨rfl, hb⟩
    go_wp2
    exact bodyPost_ret (v := .tuple #[.slice none 0 0, .int .i64 (c1 : Int), .int .i64 c2]) (by simp [results, Tryz.results25, go_sem]) rfl ⟨_, rfl, ownQ_nil _ _ _, hb⟩

end Tg
end Go.Proofs.YtlnlhhobmgiceaaGreatDoor

/-
  The document's Pairs, Query.
-/
set_option linter.unusedVariables false
set_option linter.unusedSimpArgs false
namespace Go.Proofs.YtlnlhhobmgiceaaGreatDoor
open Go.RowKit Go.Shelf
namespace Tg
open Oc

theorem split_mem_len (b : UInt8) : ∀ (n : Nat) (l : List UInt8), l.length ≤ n → ∀ z ∈ splitB b l, z.length ≤ l.length := by
  intro n
  induction n with
  | zero =>
    intro l hl z hz
    obtain rfl : l = [] := List.length_eq_zero_iff.1 (by omega)
    have : z = [] := by simpa [splitB] using hz
    rw [this]
    exact Nat.le_refl _
  | succ n ih =>
    intro l hl z hz
    rw [split_cut] at hz
    rcases List.mem_cons.1 hz with rfl | hz
    · exact cutA_len b l
    · cases h : has b l with
      | false => rw [h] at hz; simp at hz
      | true =>
        rw [h, if_pos rfl] at hz
        have e := congrArg List.length (cut_app b l h)
        rw [List.length_append, List.length_cons] at e
        have := ih (cutB b l) (by omega) z hz
        omega
theorem qs_take (t : List (List UInt8)) (k : Nat) (hk : k < t.length) : qs (t.take (k + 1)) = if t.getD k [] = [] then qs (t.take k) else qs (t.take k) ++ [pairR (t.getD k [])] := by
  have e : t.take (k + 1) = t.take k ++ [t.getD k []] := by
    rw [List.take_add_one, List.getElem?_eq_getElem hk, List.getD_eq_getElem?_getD, List.getElem?_eq_getElem hk]
    rfl
  rw [e]
  split
  · next h => rw [qs_none _ _ h]
  · next h => rw [qs_one _ _ h]

/-- A parameter appended to a slice of the call's own. -/
theorem wp_appQ2 {ops : Array Oper} {rest : List Oper} {o : Oper} {a : Act} {Q : Exit → Act → World → Prop} (T S : Nat) (hT : T ≠ 9) (hinfo : (Tryz.prog.info? T).map (fun i => (i.zero, i.size, i.bytes)) = some (some (.agg #[.string ⟨#[]⟩, .string ⟨#[]⟩, .bool false]), 3, 40))
    (hund : Tryz.prog.underlying S = some (.slice T)) (hgd : o.guard = none) (s x : Operand)
    (ho : o.op = .call { callee := .builtin .append, args := #[s, x], argTypes := #[S, S] }) (B : Nat) (v : Value) (t : List Prm) (W : World) (p : Prm) (n1 n2 : ByteArray) (h1 : n1 = str p.1) (h2 : n2 = str p.2.1) (b : Bool) (h3 : b = p.2.2)
    (hs : a.eval s = v) (hown : OwnQ T B v t W) (g : Nat) (hx : a.eval x = .slice (some ⟨g, 0, none⟩) 1 1) (hg : g = W.heap.size) (hlen : t.length + 1 ≤ 2147483648) (hB : B ≤ W.heap.size)
    (h : ∀ v' w', OwnQ T B v' (t ++ [p]) w' → Below B W w' → (∀ B2 lv t2, OwnS B2 lv t2 W → OwnS B2 lv t2 w') → wpList Tryz.prog ops Q rest (a.put o.dst v') w') : wpList Tryz.prog ops Q (o :: rest) a (W.alloc (.cells #[.string n1, .string n2, .bool b] T)) := by
  subst h1 h2 h3 hg
  obtain ⟨i0, hi, hz0, hz1, hz2⟩ := info_parts hinfo
  refine wpList_append_own _ hgd s x S ho B T i0 (.agg #[.string ⟨#[]⟩, .string ⟨#[]⟩, .bool false]) 3 40 hund hi hz0 hz1 hz2 rfl (by decide) v t.length _ hs (World.ownsRow.alloc hown _) ⟨W.heap.size, 0, none⟩ 1 1 (encQ1 p) hx rfl ?_ ?_ ?_ ?_ ?_ ?_
  · intro j u hj
    unfold encQ1 at hj
    match j, hj with
    | 0, hj => simp at hj; subst hj; simp [Addr.add]
    | 1, hj => simp at hj; subst hj; simp [Addr.add]
    | 2, hj => simp at hj; subst hj; simp [Addr.add]
  · intro u hu
    unfold encQ1 at hu
    simp at hu
    rcases hu with rfl | rfl | rfl <;> rfl
  · unfold maxLen; omega
  · omega
  · simp; omega
  · intro v' w' h1 h2 _
    refine h v' w' ?_ (((Below.refl B W).alloc hB _).grown h2 (by simp; omega) (fun k hk => (World.ownsRow.lt hown k hk).1)) ?_
    · unfold OwnQ
      rw [encQ_snoc, List.length_append]
      exact h1
    · intro B2 lv t2 hu
      have h0 : lv.ownBlock = none ∨ lv.ownBlock ≠ v.ownBlock := by
        rcases hu.2 with ⟨rfl, _⟩ | ⟨g, cap, cur, rfl, _, hg, _⟩
        · exact .inl rfl
        · refine .inr fun e' => ?_
          rcases hown.2 with ⟨rfl, _⟩ | ⟨g', cap', cur', rfl, _, hg', _⟩
          · cases e'
          · obtain rfl : g = g' := by simpa [Value.ownBlock] using e'
            rw [hg] at hg'
            simp at hg'
            exact hT hg'.2.symm
      exact World.ownsRow.kept (World.ownsRow.alloc hu _) h2 h0

set_option maxRecDepth 100000 in
set_option maxHeartbeats 400000 in
theorem rPairs_any (s : ByteArray) (hs : s.size ≤ 4194304) (w : World) :
    Calls Tryz.prog 15 #[.string s] w fun e w' => ∃ v, e = .returned v ∧ OwnQ 57 w.heap.size v (qs (splitB 38 s.data.toList)) w' ∧ Below w.heap.size w w' := by
  have HSp : Hid (∀ w, _) := fun w => rsplit_any s hs 38 w
  have HE : Hid (_) := ownQ_empty (B := w.heap.size) 57 w (Nat.le_refl _)
  have hle : Below w.heap.size w (w.alloc (.cells #[] 57)) := (Below.refl _ w).alloc (Nat.le_refl _) _
  have HL := split_len 38 s.data.toList
  have HM : Hid (∀ z ∈ splitB 38 s.data.toList, z.length ≤ s.size) := by
    intro z hz
    have := split_mem_len 38 _ s.data.toList (Nat.le_refl _) z hz
    rw [size_list] at this
    exact this
  rw [size_list] at HL
  generalize splitB 38 s.data.toList = t at *
  go_enter Tryz.func15, Tryz.ntmps15
  go_wp2_with fail
  refine (HSp.out _).mono ?_
  rintro e w1 ⟨lv, rfl, hl1, hb1⟩
  have HO1 : Hid (OwnQ 57 w.heap.size _ [] w1) := OwnQ.below HE.out hb1
  have HB1 : Hid (Below w.heap.size w w1) := hle.trans (hb1.mono (by simp))
  have hR1 : Hid (OwnS w.heap.size lv t w1) := hl1.lower (by simp)
  obtain ⟨la, lc, rfl⟩ := hl1.form
  have hsz1 : w.heap.size < w1.heap.size := by have := hb1.size; simp at this; omega
  clear hl1 hb1 HE hle
  go_wp2
  go_loopw [3, 5] (fun ov i wr => ∃ k : Nat, k ≤ t.length ∧ i = .int .i64 k ∧ Hid (OwnQ 57 w.heap.size ov (qs (t.take k)) wr) ∧ Hid (OwnS w.heap.size (.slice la t.length lc) t wr) ∧ Hid (Below w.heap.size w wr)) (fun _ i _ => t.length - (intOf i).toNat)
  case atStart => exact ⟨0, Nat.zero_le _, rfl, HO1.out, hR1.out, HB1.out⟩
  case round =>
    obtain ⟨k, hk, rfl, hown, hrd, hbl⟩ := hrel
    have hsz := hbl.out.size
    by_cases hlt : k < t.length
    · obtain ⟨a0, c0, e0, hcs⟩ := OwnS.rd hrd.out
      injection e0 with e1 _ e2
      subst e1 e2
      rcases hcs with h | ⟨g, o, rfl, hlc, hcell⟩
      · rw [h] at hlt; simp at hlt
      have hk0 := hcell k hlt
      clear hcell
      have hzl : (t.getD k []).length ≤ s.size := HM.out _ (by rw [List.getD_eq_getElem?_getD, List.getElem?_eq_getElem hlt]; exact List.getElem_mem hlt)
      have hqt := qs_take t k hlt
      have hql := qs_len (t.take k)
      rw [List.length_take] at hql
      generalize t.getD k [] = z at *
      by_cases hz : z = []
      · subst hz
        rw [if_pos rfl] at hqt
        have HQ : Hid (_) := hqt
        have hk1 : wr.cell? ⟨g, o + k, none⟩ = some (.string ⟨#[]⟩) := hk0
        clear hk0 hqt
        go_wp2
        go_roundw
        case rel => exact ⟨k + 1, by omega, by go_num, (by rw [HQ.out]; exact hown.out : OwnQ _ _ _ _ _), hrd.out, hbl.out⟩
        case measure => simp [intOf]; omega
      · rw [if_neg hz] at hqt
        have hXn : (str z).toList.isEmpty = false := by
          rw [ByteArray.toList_eq, str_list]
          cases h : z with
          | nil => exact absurd h hz
          | cons => rfl
        have hla := cutA_len 61 z
        have hlb := cutB_len 61 z
        have HC : Hid (∀ w, _) := fun w => rcut_any (str z) (by rw [str_size]; omega) 61 w
        have HA : Hid (∀ w, _) := fun w => rspaced_any (str (cutA 61 z)) (by rw [str_size]; omega) w
        have HB : Hid (∀ w, _) := fun w => rspaced_any (str (cutB 61 z)) (by rw [str_size]; omega) w
        rw [str_list] at HC HA HB
        have HQ : Hid (qs (t.take (k + 1)) = qs (t.take k) ++ [(spd (cutA 61 z), spd (cutB 61 z), has 61 z)]) := hqt
        generalize str z = X at *
        generalize str (cutA 61 z) = a at *
        generalize str (cutB 61 z) = b at *
        generalize has 61 z = h at *
        generalize spd (cutA 61 z) = y1 at *
        generalize spd (cutB 61 z) = y2 at *
        clear hqt hz hla hlb
        go_wp2_with fail
        refine (HC.out _).mono ?_
        rintro e w2 ⟨rfl, k2⟩
        have hs2 := k2.size
        go_wp2_with fail
        refine (HA.out _).mono ?_
        rintro e w3 ⟨rfl, k3⟩
        have hs3 := k3.size
        go_wp2_with fail
        refine (HB.out _).mono ?_
        rintro e w4 ⟨rfl, k4⟩
        have hs4 := k4.size
        have k24 := k2.trans ((k3.mono hs2).trans (k4.mono (Nat.le_trans hs2 hs3)))
        have ho4 : OwnQ 57 w.heap.size _ (qs (t.take k)) w4 := OwnQ.below hown.out k24
        have hl4 : OwnS w.heap.size (.slice (some ⟨g, o, none⟩) t.length lc) t w4 := OwnS.below hrd.out k24
        have K24 : Hid (Below w.heap.size wr w4) := k24.mono hsz
        have HO4 : Hid (_) := ho4
        have HL4 : Hid (_) := hl4
        have hs5 : w.heap.size ≤ w4.heap.size := by omega
        clear ho4 hl4 k24 k2 k3 k4
        go_wp2_with (at_builtin; go_must (refine wp_appQ2 57 24 (by decide) infoQ2 Tryz.underlying24 rfl (.tmp 32) (.tmp 39) rfl w.heap.size _ (qs (t.take k)) _ (y1, y2, h) _ _ rfl rfl _ rfl rfl HO4.out _ rfl rfl (by omega) hs5 ?_); intro v5 w5 o5 b5 l5)
        have O5 : Hid (OwnQ 57 w.heap.size v5 (qs (t.take (k + 1))) w5) := (by rw [HQ.out]; exact o5 : OwnQ _ _ _ _ _)
        have L5 : Hid (OwnS w.heap.size (.slice (some ⟨g, o, none⟩) t.length lc) t w5) := l5 _ _ _ HL4.out
        have B5 : Hid (Below w.heap.size w w5) := hbl.out.trans (K24.out.trans b5)
        clear o5 l5 b5
        go_roundw
        case rel => exact ⟨k + 1, by omega, by go_num, O5, L5, B5⟩
        case measure => simp [intOf]; omega
    · obtain rfl : k = t.length := by omega
      have ho := hown.out
      rw [List.take_length] at ho
      have HO : Hid (_) := ho
      clear ho
      go_wp2
      go_ret
      exact ⟨_, rfl, HO.out, hbl.out⟩

end Tg
end Go.Proofs.YtlnlhhobmgiceaaGreatDoor

/-
  Plain: a path up to its last slash; where a reference leads to.
-/
set_option linter.unusedVariables false
set_option linter.unusedSimpArgs false
namespace Go.Proofs.YtlnlhhobmgiceaaGreatDoor
namespace Tg

def dirL (p : List UInt8) : List UInt8 := (p.reverse.dropWhile (· != 47)).reverse
def resR (p r : List UInt8) : List UInt8 × Int := if isPath p then (if r = [] then normR p else if r.head? = some 47 then normR r else normR (dirL p ++ r)) else ([], 53)
theorem dirL_eq (a b : List UInt8) (h : 47 ∉ b) : dirL (a ++ 47 :: b) = a ++ [47] := by
  unfold dirL
  rw [List.reverse_append, List.reverse_cons, List.append_assoc]
  rw [List.dropWhile_append_of_pos (by intro x hx; simp; intro e; exact h (by rw [← e]; simpa using hx))]
  simp
theorem allOk_nil (ok : UInt8 → Bool) : allOk ok [] = true := by unfold allOk; rw [zs_nil]; rfl
theorem path_split (a b : List UInt8) (h : allOk pathOk (a ++ 47 :: b) = true) : allOk pathOk (a ++ [47]) = true ∧ whole (a ++ [47]) = true ∧ allOk pathOk b = true := by
  have hw := whole_of pathOk path37 _ h
  have ha := whole_left a b hw
  have w47 : whole [47] = true := by unfold whole; rw [zs_one 47 [] rfl, zs_nil]; rfl
  have o47 : allOk pathOk [47] = true := by unfold allOk; rw [zs_one 47 [] rfl, zs_nil]; decide +kernel
  have e : a ++ 47 :: b = a ++ ([47] ++ b) := by simp
  rw [e, allOk_append _ _ _ ha, allOk_append _ _ _ w47, Bool.and_eq_true, Bool.and_eq_true] at h
  refine ⟨?_, ?_, h.2.2⟩
  · rw [allOk_append _ _ _ ha, h.1, o47]; rfl
  · rw [whole_append _ _ ha]; exact w47
theorem res_bad (a b r : List UInt8) (h : allOk pathOk (a ++ 47 :: b) = true) (hb : 47 ∉ b) (hr : allOk pathOk r = false) : isPath (dirL (a ++ 47 :: b) ++ r) = false := by
  obtain ⟨h1, h2, _⟩ := path_split a b h
  rw [dirL_eq a b hb]
  unfold isPath
  rw [allOk_append _ _ _ h2, hr, Bool.and_false, Bool.and_false]

end Tg
end Go.Proofs.YtlnlhhobmgiceaaGreatDoor
