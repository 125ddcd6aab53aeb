/-
  The queue of pairs: Push.
-/
import Derived.Test.YtiecfidkoficnaaQPr3
import Derived.Deep.AppendLies
import Derived.Deep.RegionHeld3
set_option maxRecDepth 100000
set_option linter.unusedVariables false
set_option linter.unusedSimpArgs false
namespace Go.Proofs.Ytiecfidkoficnaa
open Go.RowKit
namespace Rg

theorem infoQ_P : (Try.prog.info? 68).map (fun i => (i.zero, i.size, i.bytes)) = some (some (.agg #[.int .i64 0, .string ⟨#[]⟩]), 2, 24) := by kernel_rfl
theorem step_appQ_P {ops : Array Oper} {o : Oper} {a : Act} {K : Act → World → Prop} {Q : Exit → Act → World → Prop} {E' : Prop} (hgd : o.guard = none) (s t : Operand)
    (ho : o.op = .call { callee := .builtin .append, args := #[s, t], argTypes := #[63, 63] }) (v : Value) (n : Nat) (cs : List Value) (W : World) (x : Int) (y : ByteArray)
    (hs : a.eval s = v) (hown : W.ownsRow 0 68 2 v n cs) (hx : a.eval t = .slice (some ⟨W.heap.size, 0, none⟩) 1 1) (hlen : n ≤ 65536)
    (h : ∀ g c w', Hid (w'.ownsRow 0 68 2 (.slice (some ⟨g, 0, none⟩) (n + 1) c) (n + 1) (cs ++ [.int .i64 x, .string y])) → Hid (But v.ownBlock.toList W w') → Hid (v.ownBlock = some g ∨ W.heap.size ≤ g) → K (a.put o.dst (.slice (some ⟨g, 0, none⟩) (n + 1) c)) w') :
    if Region.wanted o (yielded ops a.tmps) = true then Oper.wp Try.prog o a (W.alloc (.cells #[.int .i64 x, .string y] 68)) K Q else E' := by
  obtain ⟨i0, hi, hz0, hz1, hz2⟩ := info_parts infoQ_P
  refine step_append_lies _ hgd s t 63 ho 0 68 i0 (.agg #[.int .i64 0, .string ⟨#[]⟩]) 2 24 Try.underlying63 hi hz0 hz1 hz2 rfl (by decide) v n cs hs (World.ownsRow.alloc hown _) ⟨W.heap.size, 0, none⟩ 1 1 [.int .i64 x, .string y] hx rfl ?_ ?_ (by decide) ?_ ?_ (by omega) (W.alloc (.cells #[.int .i64 x, .string y] 68)).heap.size rfl ?_
  · intro j u hj
    match j, hj with
    | 0, hj => simp at hj; subst hj; simp [Addr.add]
    | 1, hj => simp at hj; subst hj; simp [Addr.add]
  · intro u hu
    simp at hu
    rcases hu with rfl | rfl <;> rfl
  · unfold maxLen; omega
  · omega
  · intro g c w' h2 h3 h4 h5
    refine h g c w' h2 (((But.refl _ W).alloc _).grown h3 (fun k hk => by rw [hk]; simp)) ?_
    rcases h4 with e | e
    · exact .inl e
    · exact .inr (by rw [e]; simp)

set_option maxHeartbeats 8000000 in
theorem qPush_P {w : World} {p : Option Addr} {bs : List Nat} {cap : Nat} {xs : List (List Value)} (HQ : QP w 68 2 102 p bs cap xs) (x : Int) (y : ByteArray) (hlt : xs.length < cap) : Calls Try.prog 29 #[.pointer p, .agg #[.int .i64 x, .string y]] w fun e w' => e = .returned (.int .i64 0) ∧ ∃ bs', QP w' 68 2 102 p bs' cap (xs ++ [[.int .i64 x, .string y]]) ∧ (∀ b ∈ bs', b ∈ bs ∨ w.heap.size ≤ b) ∧ But bs w w' := by
  have HB0 : Hid (Below w.heap.size w (w.alloc (.cells #[.int .i64 x, .string y] 68))) := (Below.refl _ w).alloc (Nat.le_refl _) _
  have HQ' : Hid (QP (w.alloc (.cells #[.int .i64 x, .string y] 68)) 68 2 102 p bs cap xs) := HQ.below HB0.out
  have HR0 : Hid ((w.alloc (.cells #[.int .i64 x, .string y] 68)).heap[w.heap.size]? = some (.cells #[.int .i64 x, .string y] 68 (0, 0))) := heap_alloc_new _ _
  rcases HQ with ⟨rfl, _, rfl, _⟩ | ⟨qp, sv, head, n, cs, rfl, hbs, H, hxs⟩
  · omega
  have HBS : Hid (bs = qp :: sv.ownBlock.toList) := hbs
  have HXS : Hid (xs = wait cap head xs.length 2 cs) := hxs
  obtain ⟨a, c, rfl, hcn⟩ := owns_slice H.own
  have HH : Hid (IsQ (w.alloc (.cells #[.int .i64 x, .string y] 68)) 68 2 102 qp (.slice a n c) cap head xs.length n cs) := H.below HB0.out
  have hqr : qp < w.heap.size := (Array.getElem?_eq_some_iff.1 H.str).1
  have HGR : Hid (∀ g, (Value.slice a n c).ownBlock = some g → 0 < n → g < w.heap.size) := fun g hg h0 => by
    rcases H.own.2 with ⟨_, e⟩ | ⟨g', c', _, e, _, hg', _⟩
    · omega
    · injection e with e1 _ _
      subst e1
      have : g' = g := by simpa [Value.ownBlock] using hg
      subst this
      exact (Array.getElem?_eq_some_iff.1 hg').1
  have hcap := H.cap2
  have hn := H.hn
  have hle := H.hc
  obtain ⟨hq1, hq2⟩ := H.pl_next hlt
  clear H hxs hbs
  obtain ⟨P, hP⟩ : ∃ P, P = pl cap head xs.length := ⟨_, rfl⟩
  rw [← hP] at hq1 hq2
  have HPP : Hid (pl cap head xs.length = P) := hP.symm
  clear hP
  have hne : (((xs.length : Nat) : Int) == ((cap : Nat) : Int)) = false := by simp; omega
  go_enter Try.func29, Try.ntmps29
  go_wp2_with fail
  refine (qLen_P HQ'.out).mono ?_
  rintro e w1 ⟨rfl, hb⟩
  have HB1 : Hid (Below (w.alloc (.cells #[.int .i64 x, .string y] 68)).heap.size (w.alloc (.cells #[.int .i64 x, .string y] 68)) w1) := hb
  clear hb
  go_wp2_with fail
  refine (qCap_P (HQ'.out.below HB1.out)).mono ?_
  rintro e w2 ⟨rfl, hb⟩
  have HB2 : Hid (Below (w.alloc (.cells #[.int .i64 x, .string y] 68)).heap.size (w.alloc (.cells #[.int .i64 x, .string y] 68)) w2) := bel_trans HB1.out hb
  clear hb
  obtain ⟨c0, c1, c2, c3, cf⟩ := row4q (HH.out.below HB2.out).str
  go_wp2_with fail
  refine (qPlace_P (HH.out.below HB2.out) xs.length (by omega)).mono ?_
  rintro e w3 ⟨rfl, hb⟩
  rw [HPP.out]
  have HB3' : Hid (Below (w.alloc (.cells #[.int .i64 x, .string y] 68)).heap.size (w.alloc (.cells #[.int .i64 x, .string y] 68)) w3) := bel_trans HB2.out hb
  have HB3 : Hid (Below w.heap.size w w3) := bel_trans HB0.out HB3'.out
  have H3 : Hid (IsQ w3 68 2 102 qp (.slice a n c) cap head xs.length n cs) := HH.out.below HB3'.out
  have HR3 : Hid (w3.heap[w.heap.size]? = some (.cells #[.int .i64 x, .string y] 68 (0, 0))) := (But.of_below HB3'.out).heap HR0.out (fun e => by cases e)
  clear hb c0 c1 c2 c3 cf HB1 HB2 HB3' HR0 HQ' HH
  obtain ⟨c0, c1, c2, c3, cf⟩ := row4q H3.out.str
  obtain ⟨p0, p1, pf⟩ := row2q HR3.out
  by_cases hfull : n < cap
  · have hPn := hq1 hfull
    have hpe : (((P : Nat) : Int) == ((n : Nat) : Int)) = true := by simp; omega
    have hn6 : n ≤ 65536 := by omega
    have hcl : cs.length = n * 2 := H3.out.own.1
    have HOD : Hid (w3.drew.ownsRow 0 68 2 (.slice a n c) n cs) := ((But.refl [] w3).drew).owns H3.out.own (fun _ _ e => by cases e)
    have HSD : Hid (w3.drew.heap[qp]? = _) := ((But.refl [] w3).drew).heap H3.out.str (fun e => by cases e)
    have e0 : w3.drew.cell? ⟨qp, 0, none⟩ = some (.slice a n c) := c0
    have e1 : w3.drew.cell? ⟨w.heap.size, 0, none⟩ = some (.int .i64 x) := p0
    have e2 : w3.drew.cell? ⟨w.heap.size, 1, none⟩ = some (.string y) := p1
    have hs3 : w.heap.size < w3.heap.size := (Array.getElem?_eq_some_iff.1 HR3.out).1
    have q1 : ¬ qp = w3.heap.size := by omega
    have q2 : ¬ w3.heap.size = qp := by omega
    have q3 : ¬ w.heap.size = w3.heap.size := by omega
    have q4 : ¬ w3.heap.size = w.heap.size := by omega
    have a0 : (w3.alloc (.cells #[.int .i64 x, .string y] 68)).cell? ⟨qp, 0, none⟩ = some (.slice a n c) := ((But.refl [] w3).alloc _).cell c0 (fun e => by cases e)
    have a1 : (w3.alloc (.cells #[.int .i64 x, .string y] 68)).cell? ⟨w.heap.size, 0, none⟩ = some (.int .i64 x) := ((But.refl [] w3).alloc _).cell p0 (fun e => by cases e)
    have a2 : (w3.alloc (.cells #[.int .i64 x, .string y] 68)).cell? ⟨w.heap.size, 1, none⟩ = some (.string y) := ((But.refl [] w3).alloc _).cell p1 (fun e => by cases e)
    go_wp2_with fail
    go_region_law (refine step_appQ_P rfl (.tmp 28) (.tmp 30) rfl (.slice a n c) n cs w3.drew x y (by simp [Act.eval, Act.put]) HOD.out (by simp [Act.eval, Act.put]) hn6 ?_; intro g6 c6 w6 ho6 hb6 hg6; have S6 : Hid (_ = some _) := hb6.out.heap HSD.out (fun hm => by have := H3.out.sep qp (by simpa using hm); exact this rfl); obtain ⟨e0, e1, e2, e3, ef⟩ := row4q S6.out)
    all_goals
      have z1 := heap_setCell_same w6 qp 0 _ _ (.slice (some ⟨g6, 0, none⟩) (n + 1) c6) S6.out
      have z2 := heap_setCell_same _ qp 3 _ _ (.int .i64 (((xs.length + 1 : Nat) : Nat) : Int)) z1
      have Z2 : Hid (_ = _) := z2
      clear z1 z2
      have hqp : qp < w3.heap.size := by omega
      have HSEP : Hid (g6 ≠ qp) := (by
        rcases hg6.out with e | e
        · exact H3.out.sep g6 e
        · have e' : w3.heap.size ≤ g6 := e
          omega : g6 ≠ qp)
      have BT : Hid (But [qp] w6 ((w6.setCell ⟨qp, 0, none⟩ (.slice (some ⟨g6, 0, none⟩) (n + 1) c6)).setCell ⟨qp, 3, none⟩ (.int .i64 ((xs.length : Int) + 1)))) := ((But.refl _ w6).setCell (by simp) _).setCell (by simp) _
      have hl : (xs ++ [[(.int .i64 x : Value), .string y]]).length = xs.length + 1 := by simp
      go_wp2
      go_ret
      refine ⟨rfl, qp :: (Value.slice (some ⟨g6, 0, none⟩) (n + 1) c6).ownBlock.toList, .inr ⟨qp, .slice (some ⟨g6, 0, none⟩) (n + 1) c6, head, n + 1, cs ++ [.int .i64 x, .string y], rfl, rfl, ?_, ?_⟩, ?_, ?_⟩
      · rw [hl]
        exact ⟨Z2.out, BT.out.owns ho6.out (fun g hg => by
          have e : g6 = g := by simpa [Value.ownBlock] using hg
          have := HSEP.out
          simp
          omega), (fun g hg => by
          have e : g6 = g := by simpa [Value.ownBlock] using hg
          have := HSEP.out
          omega), H3.out.cap1, H3.out.cap2, by omega, by omega, H3.out.hh, fun h => by have := H3.out.grow hfull; omega⟩
      · rw [hl, wait_app2 (fun i hi => by have := H3.out.pl_lt hi; omega) (by rw [HPP.out, hcl, hPn]), ← HXS.out]
      · intro b hb
        rw [HBS.out]
        rcases List.mem_cons.1 hb with rfl | hb
        · exact .inl (by simp)
        · have hb' : b = g6 := by simpa [Value.ownBlock] using hb
          subst hb'
          rcases hg6.out with e | e
          · exact .inl (by rw [e]; simp)
          · have e' : w3.heap.size ≤ b := e
            exact .inr (by omega)
      · rw [HBS.out]
        exact ((((But.of_below HB3.out).nil.drew.trans (hb6.out.mono (fun y hy => List.mem_cons_of_mem _ hy)))).trans (BT.out.mono (by simp)))
  · have hnc : n = cap := by omega
    have hPn := hq2 hnc
    have hpe : (((P : Nat) : Int) == ((n : Nat) : Int)) = false := by simp; omega
    have hpl : ((P : Nat) : Int) < ((n : Nat) : Int) := by omega
    obtain ⟨g, rfl⟩ : ∃ g, a = some ⟨g, 0, none⟩ := by
      rcases H3.out.own.2 with ⟨_, e⟩ | ⟨g, c', _, e, _⟩
      · omega
      · injection e with e1 _ _
        exact ⟨g, e1⟩
    have hgq : g ≠ qp := H3.out.sep g rfl
    have hgr := HGR.out g rfl (by omega)
    have hcl : cs.length = n * 2 := H3.out.own.1
    obtain ⟨u, hu⟩ : ∃ u, w3.cell? ⟨g, P * 2, none⟩ = some u := by
      rw [H3.out.own.cellAt (P * 2) (by omega)]
      exact ⟨_, List.getElem?_eq_getElem (by omega)⟩
    obtain ⟨v, hv⟩ : ∃ v, w3.cell? ⟨g, P * 2 + 1, none⟩ = some v := by
      rw [H3.out.own.cellAt (P * 2 + 1) (by omega)]
      exact ⟨_, List.getElem?_eq_getElem (by omega)⟩
    have hf := H3.out.own.frozenAt (P * 2)
    have hf1 := H3.out.own.frozenAt (P * 2 + 1)
    have r1 : ¬ g = w.heap.size := by omega
    have r2 : ¬ w.heap.size = g := by omega
    have r3 : ¬ qp = g := fun e => hgq e.symm
    obtain ⟨w4, hw4⟩ : ∃ w4, w4 = ((w3.setCell ⟨g, P * 2, none⟩ (.int .i64 x)).setCell ⟨g, P * 2 + 1, none⟩ (.string y)).drew := ⟨_, rfl⟩
    have BG : Hid (But [g] w3 w4) := (by rw [hw4]; exact (((But.refl _ w3).setCell (by simp) _).setCell (by simp) _).drew : But [g] w3 w4)
    have OS : Hid (w4.ownsRow 0 68 2 (.slice (some ⟨g, 0, none⟩) n c) n ((cs.set (P * 2) (.int .i64 x)).set (P * 2 + 1) (.string y))) := (by rw [hw4]; exact ((H3.out.own.stored (P * 2) _).1.stored (P * 2 + 1) _).1 : w4.ownsRow 0 68 2 (.slice (some ⟨g, 0, none⟩) n c) n ((cs.set (P * 2) (.int .i64 x)).set (P * 2 + 1) (.string y)))
    have S6 : Hid (_ = some _) := BG.out.heap H3.out.str (by simpa using r3)
    obtain ⟨k0, k1, k2, k3, kf⟩ := row4q S6.out
    have z2' := heap_setCell_same _ qp 3 _ _ (.int .i64 (((xs.length + 1 : Nat) : Nat) : Int)) S6.out
    have Z2 : Hid (_ = _) := z2'
    have hl : (xs ++ [[(.int .i64 x : Value), .string y]]).length = xs.length + 1 := by simp
    clear z2'
    go_wp2_with fail
    go_region
    all_goals
      rw [← hw4]
      clear hw4
      go_wp2
      go_ret
      have BT : But [qp] w4 (w4.setCell ⟨qp, 3, none⟩ (.int .i64 ((xs.length : Int) + 1))) := (But.refl _ _).setCell (by simp) _
      refine ⟨rfl, bs, .inr ⟨qp, .slice (some ⟨g, 0, none⟩) n c, head, n, (cs.set (P * 2) (.int .i64 x)).set (P * 2 + 1) (.string y), rfl, HBS.out, ?_, ?_⟩, fun b hb => .inl hb, ?_⟩
      · rw [hl]
        exact ⟨Z2.out, BT.owns OS.out (fun g' hg => by have := H3.out.sep g' hg; simpa using this), H3.out.sep, H3.out.cap1, H3.out.cap2, H3.out.hn, by omega, H3.out.hh, fun h => by omega⟩
      · have hw := wait_set2 (u := .int .i64 x) (v := .string y) (cs := cs) H3.out.hh hlt (by rw [HPP.out, hcl]; omega)
        rw [HPP.out] at hw
        rw [hl, hw, ← HXS.out]
      · rw [HBS.out]
        exact (((But.of_below HB3.out).nil.trans (BG.out.mono (by simp [Value.ownBlock])))).trans (BT.mono (by simp))

set_option maxHeartbeats 2000000 in
theorem qPushNo_P {w : World} {p : Option Addr} {bs : List Nat} {cap : Nat} {xs : List (List Value)} (HQ : QP w 68 2 102 p bs cap xs) (x : Int) (y : ByteArray) (hfull : xs.length = cap) : Calls Try.prog 29 #[.pointer p, .agg #[.int .i64 x, .string y]] w fun e w' => e = .returned (.int .i64 21) ∧ Below w.heap.size w w' := by
  have HB0 : Hid (Below w.heap.size w (w.alloc (.cells #[.int .i64 x, .string y] 68))) := (Below.refl _ w).alloc (Nat.le_refl _) _
  have HQ' : Hid (QP (w.alloc (.cells #[.int .i64 x, .string y] 68)) 68 2 102 p bs cap xs) := HQ.below HB0.out
  clear HQ
  have HF : Hid (xs.length = cap) := hfull
  clear hfull
  go_enter Try.func29, Try.ntmps29
  go_wp2_with fail
  refine (qLen_P HQ'.out).mono ?_
  rintro e w1 ⟨rfl, hb⟩
  have HB1 : Hid (Below (w.alloc (.cells #[.int .i64 x, .string y] 68)).heap.size (w.alloc (.cells #[.int .i64 x, .string y] 68)) w1) := hb
  clear hb
  go_wp2_with fail
  refine (qCap_P (HQ'.out.below HB1.out)).mono ?_
  rintro e w2 ⟨rfl, hb⟩
  have HB2 : Hid (Below w.heap.size w w2) := bel_trans HB0.out (bel_trans HB1.out hb)
  clear hb
  rw [HF.out]
  go_wp2
  go_ret
  exact ⟨rfl, HB2.out⟩

end Rg
end Go.Proofs.Ytiecfidkoficnaa
