/- Several texts as one. -/
import Derived.Test.YtjhlflochheolaaMgD
import Derived.Test.YtjhlflochheolaaMgC
import Derived.Maps.AppendAt
/-
  'append([]byte{}, p...)': a copy of the call's own.
-/
set_option linter.unusedVariables false
set_option linter.unusedSimpArgs false
namespace Go.Proofs.Ytjhlflochheolaa
open Go.RowKit
namespace Rg

theorem own_empty (W : World) : (W.alloc (.cells #[] 5)).ownsRow W.heap.size 5 1 (.slice (some ⟨W.heap.size, 0, none⟩) 0 0) ([] : List UInt8).length (bv []) := owns_heap (l := []) (heap_alloc_new _ _) (Nat.le_refl _) rfl (by unfold maxLen; simp)
theorem owns_slice {w : World} {B T S : Nat} {v : Value} {n : Nat} {xs : List Value} (h : w.ownsRow B T S v n xs) : ∃ a c, v = .slice a n c ∧ n ≤ c := by
  rcases h.2 with ⟨e, h0⟩ | ⟨g, c, _, e, _, _, hc, _⟩
  · exact ⟨none, 0, by rw [e, h0], by omega⟩
  · exact ⟨_, c, e, hc⟩

theorem wp_new {ops : Array Oper} {rest : List Oper} {o : Oper} {a : Act} {Q : Exit → Act → World → Prop} (hw : Region.wanted o (yielded ops a.tmps) = true) (s x : Operand)
    (ho : o.op = .call { callee := .builtin .append, args := #[s, x], argTypes := #[25, 25] }) (W : World) (y : Value) (u : List UInt8) (n : Nat) (hn : n = u.length)
    (hs : a.eval s = .slice (some ⟨W.heap.size, 0, none⟩) 0 0) (hx : a.eval x = y) (hy : RdB W y u) (hlen : u.length ≤ 140737488355328)
    (h : ∀ a' c' w', Hid (w'.ownsRow W.heap.size 5 1 (.slice a' n c') n (bv u)) → Hid (Below W.heap.size W w') → wpList Try.prog ops Q rest (a.put o.dst (.slice a' n c')) w') : wpList Try.prog ops Q (o :: rest) a (W.alloc (.cells #[] 5)) := by
  subst hn
  refine wp_appB hw s x ho W.heap.size _ y [] u hs (own_empty W) hx (hy.below ((Below.refl _ W).alloc (Nat.le_refl _) _)) (by simpa using hlen) (by simp) ?_
  intro v' w' h1 h2
  obtain ⟨a', c', rfl, _⟩ := owns_slice h1.out
  exact h a' c' w' h1.out (((Below.refl _ W).alloc (Nat.le_refl _) _).grown h2.out (by simp) (fun k hk => by cases hk; exact Nat.le_refl _))
theorem step_new {ops : Array Oper} {o : Oper} {a : Act} {K : Act → World → Prop} {Q : Exit → Act → World → Prop} {E : Prop} (hgd : o.guard = none) (s x : Operand)
    (ho : o.op = .call { callee := .builtin .append, args := #[s, x], argTypes := #[25, 25] }) (W : World) (y : Value) (u : List UInt8) (n : Nat) (hn : n = u.length)
    (hs : a.eval s = .slice (some ⟨W.heap.size, 0, none⟩) 0 0) (hx : a.eval x = y) (hy : RdB W y u) (hlen : u.length ≤ 140737488355328)
    (h : ∀ a' c' w', Hid (w'.ownsRow W.heap.size 5 1 (.slice a' n c') n (bv u)) → Hid (Below W.heap.size W w') → K (a.put o.dst (.slice a' n c')) w') : if Region.wanted o (yielded ops a.tmps) = true then Oper.wp Try.prog o a (W.alloc (.cells #[] 5)) K Q else E := by
  subst hn
  refine step_appB hgd s x ho W.heap.size _ y [] u hs (own_empty W) hx (hy.below ((Below.refl _ W).alloc (Nat.le_refl _) _)) (by simpa using hlen) (by simp) ?_
  intro v' w' h1 h2
  obtain ⟨a', c', rfl, _⟩ := owns_slice h1.out
  exact h a' c' w' h1.out (((Below.refl _ W).alloc (Nat.le_refl _) _).grown h2.out (by simp) (fun k hk => by cases hk; exact Nat.le_refl _))

theorem own_cap {w : World} {B T S n c : Nat} {a : Option Addr} {xs : List Value} (h : w.ownsRow B T S (.slice a n c) n xs) : c ≤ 9223372036854775807 := by
  rcases h.2 with ⟨e, _⟩ | ⟨g, c', _, e, _, _, _, hm, _⟩
  · injection e with _ _ e; omega
  · injection e with _ _ e; rw [e]; unfold maxLen at hm; omega
theorem bv_len' {w : World} {B T n : Nat} {v : Value} {l : List UInt8} (h : w.ownsRow B T 1 v n (bv l)) : w.ownsRow B T 1 v l.length (bv l) := by
  have hn := owns_len h
  subst hn
  exact h

theorem rd_len {w : World} {a : Option Addr} {n c : Nat} {l : List UInt8} (h : RdB w (.slice a n c) l) : n = l.length ∧ n ≤ c := by
  obtain ⟨a', c', e, hc, _⟩ := h
  injection e with _ e2 e3
  subst e3
  exact ⟨e2, by omega⟩

end Rg
end Go.Proofs.Ytjhlflochheolaa

/-
  The queue's Push.
-/
set_option maxRecDepth 100000
set_option linter.unusedVariables false
set_option linter.unusedSimpArgs false
namespace Go.Proofs.Ytjhlflochheolaa
open Go.RowKit
namespace Rg

theorem wait_succ (cap head c : Nat) (cs : List Value) : wait cap head (c + 1) 1 cs = wait cap head c 1 cs ++ [(cs.drop (pl cap head c)).take 1] := by
  unfold wait
  rw [List.range_succ, List.map_append]
  simp
theorem wait_congr {cap head c : Nat} {cs ds : List Value} (h : ∀ i, i < c → cs[pl cap head i]? = ds[pl cap head i]?) : wait cap head c 1 cs = wait cap head c 1 ds := by
  unfold wait
  refine List.map_congr_left fun i hi => ?_
  have e := h i (List.mem_range.1 hi)
  rw [Nat.mul_one]
  have t1 : ∀ (l : List Value) k, (l.drop k).take 1 = l[k]?.toList := fun l k => by
    rcases Nat.lt_or_ge k l.length with hk | hk
    · rw [List.drop_eq_getElem_cons hk, List.getElem?_eq_getElem hk]
      rfl
    · rw [List.drop_of_length_le hk, List.getElem?_eq_none hk]
      rfl
  rw [t1, t1, e]
/-- Behind a push into a place that stands. -/
theorem wait_set {cap head c : Nat} {cs : List Value} {v : Value} (hh : head < cap) (hc : c < cap) (hp : pl cap head c < cs.length) : wait cap head (c + 1) 1 (cs.set (pl cap head c) v) = wait cap head c 1 cs ++ [[v]] := by
  rw [wait_succ]
  congr 1
  · refine wait_congr fun i hi => ?_
    rw [List.getElem?_set_ne]
    unfold pl
    split <;> split <;> omega
  · rw [List.drop_eq_getElem_cons (by simpa using hp)]
    simp
/-- Behind a push at the store's end. -/
theorem wait_app {cap head c : Nat} {cs : List Value} {v : Value} (hh : ∀ i, i < c → pl cap head i < cs.length) (hp : pl cap head c = cs.length) : wait cap head (c + 1) 1 (cs ++ [v]) = wait cap head c 1 cs ++ [[v]] := by
  rw [wait_succ]
  congr 1
  · refine wait_congr fun i hi => ?_
    rw [List.getElem?_append_left (hh i hi)]
  · rw [hp]
    simp

theorem infoQ_S : (Try.prog.info? 9).map (fun i => (i.zero, i.size, i.bytes)) = some (some (.string ⟨#[]⟩), 1, 16) := by kernel_rfl
theorem wp_appQ_S {ops : Array Oper} {rest : List Oper} {o : Oper} {a : Act} {Q : Exit → Act → World → Prop} (hgd : o.guard = none) (s x : Operand)
    (ho : o.op = .call { callee := .builtin .append, args := #[s, x], argTypes := #[50, 50] }) (v : Value) (n : Nat) (cs : List Value) (W : World) (z : ByteArray)
    (hs : a.eval s = v) (hown : W.ownsRow 0 9 1 v n cs) (hx : a.eval x = .slice (some ⟨W.heap.size, 0, none⟩) 1 1) (hlen : n ≤ 65536)
    (h : ∀ v' w', Hid (w'.ownsRow 0 9 1 v' (n + 1) (cs ++ [.string z])) → Hid (But v.ownBlock.toList W w') → Hid (∀ g, v'.ownBlock = some g → v.ownBlock = some g ∨ W.heap.size ≤ g) → wpList Try.prog ops Q rest (a.put o.dst v') w') : wpList Try.prog ops Q (o :: rest) a (W.alloc (.cells #[.string z] 9)) := by
  obtain ⟨i0, hi, hz0, hz1, hz2⟩ := info_parts infoQ_S
  refine wpList_append_own_at _ hgd s x 50 ho 0 9 i0 (.string ⟨#[]⟩) 1 16 Try.underlying50 hi hz0 hz1 hz2 rfl (by decide) v n _ hs (World.ownsRow.alloc hown _) ⟨W.heap.size, 0, none⟩ 1 1 [.string z] hx rfl ?_ ?_ ?_ ?_ ?_ ?_
  · intro j u hj
    match j, hj with
    | 0, hj => simp at hj; subst hj; simp [Addr.add]
  · intro u hu; simp at hu; subst hu; rfl
  · unfold maxLen; omega
  · omega
  · simp
  · intro v' w' h2 h3 h4 h5
    refine h v' w' h2 (((But.refl _ W).alloc _).grown h3 (fun k hk => by rw [hk]; simp)) (fun g hg => ?_)
    rcases h5 with e | e
    · rw [← e]; exact .inl hg
    · rw [e] at hg
      simp at hg
      exact .inr (by omega)

set_option maxHeartbeats 2000000 in
theorem qPush_S {w : World} {p : Option Addr} {bs : List Nat} {cap : Nat} {xs : List (List Value)} (HQ : QP w 9 1 87 p bs cap xs) (x : ByteArray) (hlt : xs.length < cap) : Calls Try.prog 19 #[.pointer p, .string x] w fun e w' => e = .returned (.int .i64 0) ∧ ∃ bs', QP w' 9 1 87 p bs' cap (xs ++ [[.string x]]) ∧ (∀ b ∈ bs', b ∈ bs ∨ w.heap.size ≤ b) ∧ But bs w w' := by
  have HQ' : Hid (QP w 9 1 87 p bs cap xs) := HQ
  rcases HQ with ⟨rfl, _, rfl, _⟩ | ⟨qp, sv, head, n, cs, rfl, hbs, H, hxs⟩
  · omega
  have HBS : Hid (bs = qp :: sv.ownBlock.toList) := hbs
  have HXS : Hid (xs = wait cap head xs.length 1 cs) := hxs
  obtain ⟨a, c, rfl, hcn⟩ := owns_slice H.own
  have HH : Hid (IsQ w 9 1 87 qp (.slice a n c) cap head xs.length n cs) := H
  have hcap := H.cap2
  have hn := H.hn
  have hle := H.hc
  obtain ⟨hq1, hq2⟩ := H.pl_next hlt
  clear H hxs hbs
  obtain ⟨P, hP⟩ : ∃ P, P = pl cap head xs.length := ⟨_, rfl⟩
  rw [← hP] at hq1 hq2
  have HPP : Hid (pl cap head xs.length = P) := hP.symm
  clear hP
  have hne : (((xs.length : Nat) : Int) == ((cap : Nat) : Int)) = false := by simp; omega
  go_enter Try.func19, Try.ntmps19
  go_wp2_with fail
  refine (qLen_S HQ'.out).mono ?_
  rintro e w1 ⟨rfl, hb⟩
  have HB1 : Hid (Below w.heap.size w w1) := hb
  clear hb
  go_wp2_with fail
  refine (qCap_S (HQ'.out.below HB1.out)).mono ?_
  rintro e w2 ⟨rfl, hb⟩
  have HB2 : Hid (Below w.heap.size w w2) := bel_trans HB1.out hb
  clear hb
  obtain ⟨c0, c1, c2, c3, cf⟩ := row4q (HH.out.below HB2.out).str
  go_wp2_with fail
  refine (qPlace_S (HH.out.below HB2.out) xs.length (by omega)).mono ?_
  rintro e w3 ⟨rfl, hb⟩
  rw [HPP.out]
  have HB3 : Hid (Below w.heap.size w w3) := bel_trans HB2.out hb
  have H3 : Hid (IsQ w3 9 1 87 qp (.slice a n c) cap head xs.length n cs) := HH.out.below HB3.out
  clear hb c0 c1 c2 c3 cf
  obtain ⟨c0, c1, c2, c3, cf⟩ := row4q H3.out.str
  by_cases hfull : n < cap
  · have hPn := hq1 hfull
    have hpe : (((P : Nat) : Int) == ((n : Nat) : Int)) = true := by simp; omega
    have hn6 : n ≤ 65536 := by omega
    go_wp2_with (at_builtin; go_must (refine wp_appQ_S rfl (.tmp 28) (.tmp 30) rfl (.slice a n c) n cs w3 x rfl H3.out.own rfl hn6 ?_; intro v6 w6 ho6 hb6 hg6; obtain ⟨a6, c6, rfl, hc6⟩ := owns_slice ho6.out; have S6 : Hid (_ = some _) := hb6.out.heap H3.out.str (fun hm => by have := H3.out.sep qp (by simpa using hm); exact this rfl); obtain ⟨e0, e1, e2, e3, ef⟩ := row4q S6.out))
    have z1 := heap_setCell_same w6 qp 0 _ _ (.slice a6 (n + 1) c6) S6.out
    have z2 := heap_setCell_same _ qp 3 _ _ (.int .i64 (((xs.length + 1 : Nat) : Nat) : Int)) z1
    have hqp : qp < w3.heap.size := (Array.getElem?_eq_some_iff.1 H3.out.str).1
    have hsep : ∀ g, (Value.slice a6 (n + 1) c6).ownBlock = some g → g ≠ qp := fun g hg => by
      rcases hg6.out g hg with e | e
      · exact H3.out.sep g e
      · omega
    have BT : But [qp] w6 ((w6.setCell ⟨qp, 0, none⟩ (.slice a6 (n + 1) c6)).setCell ⟨qp, 3, none⟩ (.int .i64 ((xs.length : Int) + 1))) := ((But.refl _ w6).setCell (by simp) _).setCell (by simp) _
    have hl : (xs ++ [[(.string x : Value)]]).length = xs.length + 1 := by simp
    have hcl : cs.length = n := by have := H3.out.own.1; omega
    go_ret
    refine ⟨rfl, qp :: (Value.slice a6 (n + 1) c6).ownBlock.toList, .inr ⟨qp, .slice a6 (n + 1) c6, head, n + 1, cs ++ [.string x], rfl, rfl, ?_, ?_⟩, ?_, ?_⟩
    · rw [hl]
      exact ⟨z2, BT.owns ho6.out (fun g hg => by have := hsep g hg; simpa using this), hsep, H3.out.cap1, H3.out.cap2, by omega, by omega, H3.out.hh, fun h => by have := H3.out.grow hfull; omega⟩
    · rw [hl, wait_app (fun i hi => by rw [hcl]; exact H3.out.pl_lt hi) (by rw [HPP.out, hcl]; exact hPn), ← HXS.out]
    · intro b hb
      rw [HBS.out]
      rcases List.mem_cons.1 hb with rfl | hb
      · exact .inl (by simp)
      · rcases hg6.out b (by simpa using hb) with e | e
        · exact .inl (by rw [e]; simp)
        · exact .inr (by have := HB3.out.size; omega)
    · rw [HBS.out]
      exact (((But.of_below HB3.out).nil.trans (hb6.out.mono (fun y hy => List.mem_cons_of_mem _ hy)))).trans (BT.mono (by simp))
  · have hnc : n = cap := by omega
    have hPn := hq2 hnc
    have hpe : (((P : Nat) : Int) == ((n : Nat) : Int)) = false := by simp; omega
    have hpl : ((P : Nat) : Int) < ((n : Nat) : Int) := by omega
    obtain ⟨g, rfl⟩ : ∃ g, a = some ⟨g, 0, none⟩ := by
      rcases H3.out.own.2 with ⟨_, e⟩ | ⟨g, c', _, e, _⟩
      · omega
      · injection e with e1 _ _
        exact ⟨g, e1⟩
    have hgq : g ≠ qp := H3.out.sep g rfl
    have hcl : cs.length = n := by have := H3.out.own.1; omega
    obtain ⟨u, hu⟩ : ∃ u, w3.cell? ⟨g, P, none⟩ = some u := by
      rw [H3.out.own.cellAt P (by omega)]
      exact ⟨_, List.getElem?_eq_getElem (by omega)⟩
    have hf := H3.out.own.frozenAt P
    have OS : Hid ((w3.setCell ⟨g, P, none⟩ (.string x)).ownsRow 0 9 1 (.slice (some ⟨g, 0, none⟩) n c) n (cs.set P (.string x))) := (H3.out.own.stored P _).1
    have BG : Hid (But [g] w3 (w3.setCell ⟨g, P, none⟩ (.string x))) := (But.refl _ w3).setCell (by simp) _
    have S6 : Hid (_ = some _) := BG.out.heap H3.out.str (by simpa using fun e => hgq e.symm)
    have z2' := heap_setCell_same _ qp 3 _ _ (.int .i64 (((xs.length + 1 : Nat) : Nat) : Int)) S6.out
    have Z2 : Hid (_ = _) := z2'
    have hl : (xs ++ [[(.string x : Value)]]).length = xs.length + 1 := by simp
    clear z2'
    go_wp2
    go_ret
    have BT : But [qp] (w3.setCell ⟨g, P, none⟩ (.string x)) ((w3.setCell ⟨g, P, none⟩ (.string x)).setCell ⟨qp, 3, none⟩ (.int .i64 ((xs.length : Int) + 1))) := (But.refl _ _).setCell (by simp) _
    refine ⟨rfl, bs, .inr ⟨qp, .slice (some ⟨g, 0, none⟩) n c, head, n, cs.set P (.string x), rfl, HBS.out, ?_, ?_⟩, fun b hb => .inl hb, ?_⟩
    · rw [hl]
      exact ⟨Z2.out, BT.owns OS.out (fun g' hg => by have := H3.out.sep g' hg; simpa using this), H3.out.sep, H3.out.cap1, H3.out.cap2, H3.out.hn, by omega, H3.out.hh, fun h => by omega⟩
    · have hw := wait_set (v := .string x) (cs := cs) H3.out.hh hlt (by rw [HPP.out, hcl]; exact hPn)
      rw [HPP.out] at hw
      rw [hl, hw, ← HXS.out]
    · rw [HBS.out]
      exact (((But.of_below HB3.out).nil.trans (BG.out.mono (by simp [Value.ownBlock])))).trans (BT.mono (by simp))

theorem infoQ_I : (Try.prog.info? 3).map (fun i => (i.zero, i.size, i.bytes)) = some (some (.int .i64 0), 1, 8) := by kernel_rfl
theorem wp_appQ_I {ops : Array Oper} {rest : List Oper} {o : Oper} {a : Act} {Q : Exit → Act → World → Prop} (hgd : o.guard = none) (s x : Operand)
    (ho : o.op = .call { callee := .builtin .append, args := #[s, x], argTypes := #[59, 59] }) (v : Value) (n : Nat) (cs : List Value) (W : World) (z : Int)
    (hs : a.eval s = v) (hown : W.ownsRow 0 3 1 v n cs) (hx : a.eval x = .slice (some ⟨W.heap.size, 0, none⟩) 1 1) (hlen : n ≤ 65536)
    (h : ∀ v' w', Hid (w'.ownsRow 0 3 1 v' (n + 1) (cs ++ [.int .i64 z])) → Hid (But v.ownBlock.toList W w') → Hid (∀ g, v'.ownBlock = some g → v.ownBlock = some g ∨ W.heap.size ≤ g) → wpList Try.prog ops Q rest (a.put o.dst v') w') : wpList Try.prog ops Q (o :: rest) a (W.alloc (.cells #[.int .i64 z] 3)) := by
  obtain ⟨i0, hi, hz0, hz1, hz2⟩ := info_parts infoQ_I
  refine wpList_append_own_at _ hgd s x 59 ho 0 3 i0 (.int .i64 0) 1 8 Try.underlying59 hi hz0 hz1 hz2 rfl (by decide) v n _ hs (World.ownsRow.alloc hown _) ⟨W.heap.size, 0, none⟩ 1 1 [.int .i64 z] hx rfl ?_ ?_ ?_ ?_ ?_ ?_
  · intro j u hj
    match j, hj with
    | 0, hj => simp at hj; subst hj; simp [Addr.add]
  · intro u hu; simp at hu; subst hu; rfl
  · unfold maxLen; omega
  · omega
  · simp
  · intro v' w' h2 h3 h4 h5
    refine h v' w' h2 (((But.refl _ W).alloc _).grown h3 (fun k hk => by rw [hk]; simp)) (fun g hg => ?_)
    rcases h5 with e | e
    · rw [← e]; exact .inl hg
    · rw [e] at hg
      simp at hg
      exact .inr (by omega)

set_option maxHeartbeats 2000000 in
theorem qPush_I {w : World} {p : Option Addr} {bs : List Nat} {cap : Nat} {xs : List (List Value)} (HQ : QP w 3 1 92 p bs cap xs) (x : Int) (hlt : xs.length < cap) : Calls Try.prog 28 #[.pointer p, .int .i64 x] w fun e w' => e = .returned (.int .i64 0) ∧ ∃ bs', QP w' 3 1 92 p bs' cap (xs ++ [[.int .i64 x]]) ∧ (∀ b ∈ bs', b ∈ bs ∨ w.heap.size ≤ b) ∧ But bs w w' := by
  have HQ' : Hid (QP w 3 1 92 p bs cap xs) := HQ
  rcases HQ with ⟨rfl, _, rfl, _⟩ | ⟨qp, sv, head, n, cs, rfl, hbs, H, hxs⟩
  · omega
  have HBS : Hid (bs = qp :: sv.ownBlock.toList) := hbs
  have HXS : Hid (xs = wait cap head xs.length 1 cs) := hxs
  obtain ⟨a, c, rfl, hcn⟩ := owns_slice H.own
  have HH : Hid (IsQ w 3 1 92 qp (.slice a n c) cap head xs.length n cs) := H
  have hcap := H.cap2
  have hn := H.hn
  have hle := H.hc
  obtain ⟨hq1, hq2⟩ := H.pl_next hlt
  clear H hxs hbs
  obtain ⟨P, hP⟩ : ∃ P, P = pl cap head xs.length := ⟨_, rfl⟩
  rw [← hP] at hq1 hq2
  have HPP : Hid (pl cap head xs.length = P) := hP.symm
  clear hP
  have hne : (((xs.length : Nat) : Int) == ((cap : Nat) : Int)) = false := by simp; omega
  go_enter Try.func28, Try.ntmps28
  go_wp2_with fail
  refine (qLen_I HQ'.out).mono ?_
  rintro e w1 ⟨rfl, hb⟩
  have HB1 : Hid (Below w.heap.size w w1) := hb
  clear hb
  go_wp2_with fail
  refine (qCap_I (HQ'.out.below HB1.out)).mono ?_
  rintro e w2 ⟨rfl, hb⟩
  have HB2 : Hid (Below w.heap.size w w2) := bel_trans HB1.out hb
  clear hb
  obtain ⟨c0, c1, c2, c3, cf⟩ := row4q (HH.out.below HB2.out).str
  go_wp2_with fail
  refine (qPlace_I (HH.out.below HB2.out) xs.length (by omega)).mono ?_
  rintro e w3 ⟨rfl, hb⟩
  rw [HPP.out]
  have HB3 : Hid (Below w.heap.size w w3) := bel_trans HB2.out hb
  have H3 : Hid (IsQ w3 3 1 92 qp (.slice a n c) cap head xs.length n cs) := HH.out.below HB3.out
  clear hb c0 c1 c2 c3 cf
  obtain ⟨c0, c1, c2, c3, cf⟩ := row4q H3.out.str
  by_cases hfull : n < cap
  · have hPn := hq1 hfull
    have hpe : (((P : Nat) : Int) == ((n : Nat) : Int)) = true := by simp; omega
    have hn6 : n ≤ 65536 := by omega
    go_wp2_with (at_builtin; go_must (refine wp_appQ_I rfl (.tmp 28) (.tmp 30) rfl (.slice a n c) n cs w3 x rfl H3.out.own rfl hn6 ?_; intro v6 w6 ho6 hb6 hg6; obtain ⟨a6, c6, rfl, hc6⟩ := owns_slice ho6.out; have S6 : Hid (_ = some _) := hb6.out.heap H3.out.str (fun hm => by have := H3.out.sep qp (by simpa using hm); exact this rfl); obtain ⟨e0, e1, e2, e3, ef⟩ := row4q S6.out))
    have z1 := heap_setCell_same w6 qp 0 _ _ (.slice a6 (n + 1) c6) S6.out
    have z2 := heap_setCell_same _ qp 3 _ _ (.int .i64 (((xs.length + 1 : Nat) : Nat) : Int)) z1
    have hqp : qp < w3.heap.size := (Array.getElem?_eq_some_iff.1 H3.out.str).1
    have hsep : ∀ g, (Value.slice a6 (n + 1) c6).ownBlock = some g → g ≠ qp := fun g hg => by
      rcases hg6.out g hg with e | e
      · exact H3.out.sep g e
      · omega
    have BT : But [qp] w6 ((w6.setCell ⟨qp, 0, none⟩ (.slice a6 (n + 1) c6)).setCell ⟨qp, 3, none⟩ (.int .i64 ((xs.length : Int) + 1))) := ((But.refl _ w6).setCell (by simp) _).setCell (by simp) _
    have hl : (xs ++ [[(.int .i64 x : Value)]]).length = xs.length + 1 := by simp
    have hcl : cs.length = n := by have := H3.out.own.1; omega
    go_ret
    refine ⟨rfl, qp :: (Value.slice a6 (n + 1) c6).ownBlock.toList, .inr ⟨qp, .slice a6 (n + 1) c6, head, n + 1, cs ++ [.int .i64 x], rfl, rfl, ?_, ?_⟩, ?_, ?_⟩
    · rw [hl]
      exact ⟨z2, BT.owns ho6.out (fun g hg => by have := hsep g hg; simpa using this), hsep, H3.out.cap1, H3.out.cap2, by omega, by omega, H3.out.hh, fun h => by have := H3.out.grow hfull; omega⟩
    · rw [hl, wait_app (fun i hi => by rw [hcl]; exact H3.out.pl_lt hi) (by rw [HPP.out, hcl]; exact hPn), ← HXS.out]
    · intro b hb
      rw [HBS.out]
      rcases List.mem_cons.1 hb with rfl | hb
      · exact .inl (by simp)
      · rcases hg6.out b (by simpa using hb) with e | e
        · exact .inl (by rw [e]; simp)
        · exact .inr (by have := HB3.out.size; omega)
    · rw [HBS.out]
      exact (((But.of_below HB3.out).nil.trans (hb6.out.mono (fun y hy => List.mem_cons_of_mem _ hy)))).trans (BT.mono (by simp))
  · have hnc : n = cap := by omega
    have hPn := hq2 hnc
    have hpe : (((P : Nat) : Int) == ((n : Nat) : Int)) = false := by simp; omega
    have hpl : ((P : Nat) : Int) < ((n : Nat) : Int) := by omega
    obtain ⟨g, rfl⟩ : ∃ g, a = some ⟨g, 0, none⟩ := by
      rcases H3.out.own.2 with ⟨_, e⟩ | ⟨g, c', _, e, _⟩
      · omega
      · injection e with e1 _ _
        exact ⟨g, e1⟩
    have hgq : g ≠ qp := H3.out.sep g rfl
    have hcl : cs.length = n := by have := H3.out.own.1; omega
    obtain ⟨u, hu⟩ : ∃ u, w3.cell? ⟨g, P, none⟩ = some u := by
      rw [H3.out.own.cellAt P (by omega)]
      exact ⟨_, List.getElem?_eq_getElem (by omega)⟩
    have hf := H3.out.own.frozenAt P
    have OS : Hid ((w3.setCell ⟨g, P, none⟩ (.int .i64 x)).ownsRow 0 3 1 (.slice (some ⟨g, 0, none⟩) n c) n (cs.set P (.int .i64 x))) := (H3.out.own.stored P _).1
    have BG : Hid (But [g] w3 (w3.setCell ⟨g, P, none⟩ (.int .i64 x))) := (But.refl _ w3).setCell (by simp) _
    have S6 : Hid (_ = some _) := BG.out.heap H3.out.str (by simpa using fun e => hgq e.symm)
    have z2' := heap_setCell_same _ qp 3 _ _ (.int .i64 (((xs.length + 1 : Nat) : Nat) : Int)) S6.out
    have Z2 : Hid (_ = _) := z2'
    have hl : (xs ++ [[(.int .i64 x : Value)]]).length = xs.length + 1 := by simp
    clear z2'
    go_wp2
    go_ret
    have BT : But [qp] (w3.setCell ⟨g, P, none⟩ (.int .i64 x)) ((w3.setCell ⟨g, P, none⟩ (.int .i64 x)).setCell ⟨qp, 3, none⟩ (.int .i64 ((xs.length : Int) + 1))) := (But.refl _ _).setCell (by simp) _
    refine ⟨rfl, bs, .inr ⟨qp, .slice (some ⟨g, 0, none⟩) n c, head, n, cs.set P (.int .i64 x), rfl, HBS.out, ?_, ?_⟩, fun b hb => .inl hb, ?_⟩
    · rw [hl]
      exact ⟨Z2.out, BT.owns OS.out (fun g' hg => by have := H3.out.sep g' hg; simpa using this), H3.out.sep, H3.out.cap1, H3.out.cap2, H3.out.hn, by omega, H3.out.hh, fun h => by omega⟩
    · have hw := wait_set (v := .int .i64 x) (cs := cs) H3.out.hh hlt (by rw [HPP.out, hcl]; exact hPn)
      rw [HPP.out] at hw
      rw [hl, hw, ← HXS.out]
    · rw [HBS.out]
      exact (((But.of_below HB3.out).nil.trans (BG.out.mono (by simp [Value.ownBlock])))).trans (BT.mono (by simp))

end Rg
end Go.Proofs.Ytjhlflochheolaa

/-
  The queue's Push where nothing fits.
-/
set_option maxRecDepth 100000
set_option linter.unusedVariables false
set_option linter.unusedSimpArgs false
namespace Go.Proofs.Ytjhlflochheolaa
open Go.RowKit
namespace Rg

set_option maxHeartbeats 2000000 in
theorem qPushNo_S {w : World} {p : Option Addr} {bs : List Nat} {cap : Nat} {xs : List (List Value)} (HQ : QP w 9 1 87 p bs cap xs) (x : ByteArray) (hfull : xs.length = cap) : Calls Try.prog 19 #[.pointer p, .string x] w fun e w' => e = .returned (.int .i64 21) ∧ Below w.heap.size w w' := by
  have HQ' : Hid (QP w 9 1 87 p bs cap xs) := HQ
  clear HQ
  have HF : Hid (xs.length = cap) := hfull
  clear hfull
  go_enter Try.func19, Try.ntmps19
  go_wp2_with fail
  refine (qLen_S HQ'.out).mono ?_
  rintro e w1 ⟨rfl, hb⟩
  have HB1 : Hid (Below w.heap.size w w1) := hb
  clear hb
  go_wp2_with fail
  refine (qCap_S (HQ'.out.below HB1.out)).mono ?_
  rintro e w2 ⟨rfl, hb⟩
  have HB2 : Hid (Below w.heap.size w w2) := bel_trans HB1.out hb
  clear hb
  rw [HF.out]
  go_wp2
  go_ret
  exact ⟨rfl, HB2.out⟩

/-- A queue holds at most so many. -/
theorem QP.le_S {w : World} {p : Option Addr} {bs : List Nat} {cap : Nat} {xs : List (List Value)} (HQ : QP w 9 1 87 p bs cap xs) : xs.length ≤ cap := by
  rcases HQ with ⟨_, _, rfl, rfl⟩ | ⟨qp, sv, head, n, cs, _, _, H, _⟩
  · simp
  · have := H.hc; have := H.hn; omega

set_option maxHeartbeats 2000000 in
theorem qPushNo_I {w : World} {p : Option Addr} {bs : List Nat} {cap : Nat} {xs : List (List Value)} (HQ : QP w 3 1 92 p bs cap xs) (x : Int) (hfull : xs.length = cap) : Calls Try.prog 28 #[.pointer p, .int .i64 x] w fun e w' => e = .returned (.int .i64 21) ∧ Below w.heap.size w w' := by
  have HQ' : Hid (QP w 3 1 92 p bs cap xs) := HQ
  clear HQ
  have HF : Hid (xs.length = cap) := hfull
  clear hfull
  go_enter Try.func28, Try.ntmps28
  go_wp2_with fail
  refine (qLen_I HQ'.out).mono ?_
  rintro e w1 ⟨rfl, hb⟩
  have HB1 : Hid (Below w.heap.size w w1) := hb
  clear hb
  go_wp2_with fail
  refine (qCap_I (HQ'.out.below HB1.out)).mono ?_
  rintro e w2 ⟨rfl, hb⟩
  have HB2 : Hid (Below w.heap.size w w2) := bel_trans HB1.out hb
  clear hb
  rw [HF.out]
  go_wp2
  go_ret
  exact ⟨rfl, HB2.out⟩

/-- A queue holds at most so many. -/
theorem QP.le_I {w : World} {p : Option Addr} {bs : List Nat} {cap : Nat} {xs : List (List Value)} (HQ : QP w 3 1 92 p bs cap xs) : xs.length ≤ cap := by
  rcases HQ with ⟨_, _, rfl, rfl⟩ | ⟨qp, sv, head, n, cs, _, _, H, _⟩
  · simp
  · have := H.hc; have := H.hn; omega

end Rg
end Go.Proofs.Ytjhlflochheolaa
