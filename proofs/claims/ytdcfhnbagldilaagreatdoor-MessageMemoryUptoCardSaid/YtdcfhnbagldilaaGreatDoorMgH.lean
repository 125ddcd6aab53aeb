import Derived.Test.YtdcfhnbagldilaaGreatDoorMgG
import Derived.Deep.AppendLies
import Derived.Deep.RegionHeld3
import Derived.Test.YtdcfhnbagldilaaGreatDoorMgD
set_option linter.unusedVariables false
set_option linter.unusedSimpArgs false
set_option maxRecDepth 100000
namespace Go.Proofs.YtdcfhnbagldilaaGreatDoor
open Go.RowKit Go.Shelf Go.Lib
namespace Ck
open Oc Tg _root_.Go.Proofs.YtdcfhnbagldilaaGreatDoor.Fd
structure Base (w0 w : World) (bs : List Nat) : Prop where
  env : Env w0
  bel : Below w0.heap.size w0 w
  new : ∀ x, x ∈ bs → w0.heap.size ≤ x
theorem Base.goes {w0 w w' : World} {bs cs : List Nat} (h : Base w0 w bs) (g : Goes bs w cs w') : Base w0 w' cs := ⟨h.env, g.bel h.new h.bel, g.new h.bel.size h.new⟩
theorem Base.at {w0 w : World} {bs : List Nat} (h : Base w0 w bs) : Env w := h.env.below h.bel
theorem Base.below {w0 w w' : World} {bs : List Nat} (h : Base w0 w bs) (b : Below w.heap.size w w') : Base w0 w' bs := h.goes (Goes.below b)
theorem said_le (s : DS) : (said s).length ≤ s.line.length := by
  unfold said Lib.trimSuffix
  split
  · simp
  · exact Nat.le_refl _
theorem Dec.cells {w : World} {D : Nat} {s : DS} {bs : List Nat} (h : Dec w D s bs) : ∃ vl vb vt, w.cell? ⟨D, 0, none⟩ = some (fnV s.mode) ∧ w.cell? ⟨D, 1, none⟩ = some (.bool s.done) ∧ w.cell? ⟨D, 2, none⟩ = some (.int .i64 s.err) ∧ w.cell? ⟨D, 3, none⟩ = some (.int .i64 s.most) ∧ w.cell? ⟨D, 4, none⟩ = some (.int .i64 s.room) ∧ w.cell? ⟨D, 5, none⟩ = some (.int .i64 s.fields) ∧ w.cell? ⟨D, 6, none⟩ = some (.int .i64 s.left) ∧ w.cell? ⟨D, 7, none⟩ = some (.int .i64 s.total) ∧ w.cell? ⟨D, 8, none⟩ = some vl ∧ w.cell? ⟨D, 9, none⟩ = some vb ∧ w.cell? ⟨D, 10, none⟩ = some vt ∧ ∀ i, w.frozen? ⟨D, i, none⟩ = false := by
  obtain ⟨vl, vb, vt, H, _⟩ := h
  exact ⟨vl, vb, vt, row11 H.str⟩
set_option maxHeartbeats 4000000 in
theorem endSize_any {w0 w : World} {D : Nat} {s : DS} {bs : List Nat} (HB : Base w0 w bs) (H : Dec w D s bs) (hl : s.line.length ≤ 4000000000) (hne : s.line ≠ []) (hm0 : 0 ≤ s.most) (hm1 : s.most ≤ 9223372036854775807) :
    Calls Tryz.prog 123 #[.pointer (some ⟨D, 0, none⟩)] w fun ex w' => ex = .returned (.tuple #[]) ∧ ∃ bs', Dec w' D (endSize s) bs' ∧ Goes bs w bs' w' := by
  have HHB : Hid (Base w0 w bs) := HB
  have HT : Hid (Calls Tryz.prog 143 #[.pointer (some ⟨D, 0, none⟩)] w fun ex w' => ex = .returned (.tuple #[.string (str (said s)), .bool (right s)]) ∧ ∃ bs', Dec w' D (bare s) bs' ∧ Goes bs w bs' w') := takeLine_any H hl hne
  have hq := sizeR_bd (said s)
  have HP : Hid (∀ w, Tab w → Calls Tryz.prog 144 #[.string (str (said s))] w fun e w' => ∃ v, e = .returned (.tuple #[.int .i64 (sizeR (said s)).1, v, .int .i64 (sizeR (said s)).2.2]) ∧ OwnP 169 w.heap.size v (sizeR (said s)).2.1 w' ∧ Below w.heap.size w w') := fun w t => by
    have h := ParseSize_any (str (said s)) (by rw [str_size]; have := said_le s; omega) w t
    rw [str_list] at h
    exact h
  have HE : Hid (endSize s = if right s = false then fin (bare s) 100 else if (sizeR (said s)).2.2 ≠ 0 then fin (bare s) (sizeR (said s)).2.2 else if s.most < (sizeR (said s)).1 then fin (bare s) 102 else if (sizeR (said s)).1 = 0 then { bare s with mode := 4 } else { bare s with most := s.most - (sizeR (said s)).1, left := (sizeR (said s)).1, mode := 1 }) := rfl
  generalize sizeR (said s) = q at *
  obtain ⟨q1, q2, q3⟩ := q
  simp only at hq HP HE
  generalize str (said s) = L at *
  generalize right s = r at *
  obtain ⟨hq0, hq1⟩ := hq
  clear H HB hl hne
  go_enter Tryz.func123, Tryz.ntmps123
  go_wp2_with fail
  refine HT.out.mono ?_
  rintro e w1 ⟨rfl, bs1, hd1, hg1⟩
  have HD1 : Hid (Dec w1 D (bare s) bs1) := hd1
  have HG1 : Hid (Goes bs w bs1 w1) := hg1
  clear hd1 hg1
  go_wp2_with fail
  refine (HP.out _ (HHB.out.goes HG1.out).at.1).mono ?_
  rintro e w2 ⟨v, rfl, _, hb2⟩
  have HD2 : Hid (Dec w2 D (bare s) bs1) := HD1.out.below hb2
  have HG2 : Hid (Goes bs w bs1 w2) := HG1.out.trans (Goes.below hb2)
  clear hb2 HT HP
  have HEnd : Hid (∀ e : Int, Calls Tryz.prog 124 #[.pointer (some ⟨D, 0, none⟩), .int .i64 e] w2 fun ex w' => ex = .returned (.tuple #[]) ∧ ∃ bs', Dec w' D (fin (bare s) e) bs' ∧ Goes bs1 w2 bs' w') := fun e => end_any HD2.out e
  cases r with
  | false =>
    go_wp2_with fail
    refine (HEnd.out 100).mono ?_
    rintro e w3 ⟨rfl, bs3, hd3, hg3⟩
    go_wp2
    go_end0
    rw [HE.out, if_pos (by simp)]
    exact ⟨rfl, bs3, hd3, HG2.out.trans hg3⟩
  | true =>
    by_cases h3 : q3 = 0
    · subst h3
      obtain ⟨vl, vb, vt, c0, c1, c2, c3, c4, c5, c6, c7, c8, c9, c10, cf⟩ := HD2.out.cells
      by_cases h4 : s.most < q1
      · have HX : Hid (s.most < q1) := h4
        have h4' : (s.most < q1) = True := eq_true h4
        have c3' : w2.cell? ⟨D, 3, none⟩ = some (.int .i64 s.most) := c3
        clear c0 c1 c2 c3 c4 c5 c6 c7 c8 c9 c10
        go_wp2_with fail
        refine (HEnd.out 102).mono ?_
        rintro e w3 ⟨rfl, bs3, hd3, hg3⟩
        go_wp2
        go_end0
        rw [HE.out, if_neg (by simp), if_neg (by simp), if_pos HX.out]
        exact ⟨rfl, bs3, hd3, HG2.out.trans hg3⟩
      · have HX : Hid (¬ s.most < q1) := h4
        have c3' : w2.cell? ⟨D, 3, none⟩ = some (.int .i64 s.most) := c3
        by_cases h5 : q1 = 0
        · subst h5
          obtain ⟨xl, xb, xt, HI, hbs⟩ := HD2.out
          have HII : Hid (IsD w2 D (bare s) xl xb xt) := HI
          have HBS : Hid (bs1 = ft D xl xb xt) := hbs
          clear HI hbs
          clear c1 c2 c3 c4 c5 c7 c8 c9 c10
          go_wp2
          go_end0
          have hA := HII.out.at.set 0 (fnV 4)
          rw [HE.out, if_neg (by simp), if_neg (by simp), if_neg (by have := HX.out; omega), if_pos (by simp)]
          refine ⟨rfl, _, ⟨xl, xb, xt, IsD.build HII.out.str hA rfl HII.out.line HII.out.body HII.out.tr HII.out.sep, rfl⟩, ?_⟩
          rw [HBS.out] at HG2
          exact HG2.out.trans (goes_ft (hA.ftd _ _ _) (fun g h => .inl h) (fun g h => .inl h) (fun g h => .inl h))
        · obtain ⟨xl, xb, xt, HI, hbs⟩ := HD2.out
          have HII : Hid (IsD w2 D (bare s) xl xb xt) := HI
          have HBS : Hid (bs1 = ft D xl xb xt) := hbs
          clear HI hbs
          have HX5 : Hid (¬ q1 = 0) := h5
          clear c1 c2 c3 c4 c5 c7 c8 c9 c10
          have h5' : (q1 == 0) = false := by simp [h5]
          go_wp2
          go_end0
          have hA := ((HII.out.at.set 3 (.int .i64 (s.most - q1))).set 6 (.int .i64 q1)).set 0 (fnV 1)
          rw [HE.out, if_neg (by simp), if_neg (by simp), if_neg (by have := HX.out; omega), if_neg HX5.out]
          refine ⟨rfl, _, ⟨xl, xb, xt, IsD.build HII.out.str hA rfl HII.out.line HII.out.body HII.out.tr HII.out.sep, rfl⟩, ?_⟩
          rw [HBS.out] at HG2
          exact HG2.out.trans (goes_ft (hA.ftd _ _ _) (fun g h => .inl h) (fun g h => .inl h) (fun g h => .inl h))
    · have HX : Hid (q3 ≠ 0) := h3
      have h3' : (q3 != 0) = true := by simp [h3]
      clear h3
      go_wp2_with fail
      refine (HEnd.out q3).mono ?_
      rintro e w3 ⟨rfl, bs3, hd3, hg3⟩
      go_wp2
      go_end0
      rw [HE.out, if_neg (by simp), if_pos HX.out]
      exact ⟨rfl, bs3, hd3, HG2.out.trans hg3⟩
set_option maxHeartbeats 1000000 in
theorem behindChunk_any {w : World} {D : Nat} {s : DS} {bs : List Nat} (H : Dec w D s bs) (t : ByteArray) (ht : 0 < t.size) (u : UInt8) (hu : byt t 0 = (u.toNat : Int)) :
    Calls Tryz.prog 167 #[.pointer (some ⟨D, 0, none⟩), .string t] w fun ex w' => ex = .returned (.int .i64 1) ∧ ∃ bs', Dec w' D (behindChunk s u) bs' ∧ Goes bs w bs' w' := by
  obtain ⟨vl, vb, vt, H, rfl⟩ := H
  have HH : Hid (IsD w D s vl vb vt) := H
  obtain ⟨c0, c1, c2, c3, c4, c5, c6, c7, c8, c9, c10, cf⟩ := row11 H.str
  clear H
  have hby : (((t[0]'ht).toNat : Nat) : Int) = byt t 0 := byt_at t 0 ht
  rw [hu] at hby
  have hA := HH.out.at.set 0 (fnV 3)
  have HI : Hid (IsD (w.setCell ⟨D, 0, none⟩ (fnV 3)) D { s with mode := 3 } vl vb vt) := IsD.build HH.out.str hA rfl HH.out.line HH.out.body HH.out.tr HH.out.sep
  have HG : Hid (Goes (ft D vl vb vt) w (ft D vl vb vt) (w.setCell ⟨D, 0, none⟩ (fnV 3))) := goes_ft (hA.ftd _ _ _) (fun g h => .inl h) (fun g h => .inl h) (fun g h => .inl h)
  have HEnd : Hid (∀ e : Int, Calls Tryz.prog 124 #[.pointer (some ⟨D, 0, none⟩), .int .i64 e] (w.setCell ⟨D, 0, none⟩ (.func (.func 190) #[] #[])) fun ex w' => ex = .returned (.tuple #[]) ∧ ∃ bs', Dec w' D (fin { s with mode := 3 } e) bs' ∧ Goes (ft D vl vb vt) (w.setCell ⟨D, 0, none⟩ (fnV 3)) bs' w') := fun e => end_any ⟨vl, vb, vt, HI.out, rfl⟩ e
  clear hA
  by_cases h : u = 13
  · have hb : ((u.toNat : Int) != 13) = false := by subst h; rfl
    have HU : Hid (u = 13) := h
    clear h hu
    generalize (u.toNat : Int) = x at *
    go_enter Tryz.func167, Tryz.ntmps167
    go_wp2
    go_ret
    unfold behindChunk
    rw [if_pos HU.out]
    exact ⟨rfl, _, ⟨vl, vb, vt, HI.out, rfl⟩, HG.out⟩
  · have hb : ((u.toNat : Int) != 13) = true := by
      simp only [bne_iff_ne, ne_eq]
      intro e
      exact h (UInt8.toNat_inj.1 (by show u.toNat = 13; omega))
    have HU : Hid (¬ u = 13) := h
    clear h hu
    generalize (u.toNat : Int) = x at *
    go_enter Tryz.func167, Tryz.ntmps167
    go_wp2_with fail
    refine (HEnd.out 100).mono ?_
    rintro e w3 ⟨rfl, bs3, hd3, hg3⟩
    go_wp2
    go_ret
    unfold behindChunk
    rw [if_neg HU.out]
    exact ⟨rfl, bs3, hd3, HG.out.trans hg3⟩
set_option maxHeartbeats 1000000 in
theorem behindReturn_any {w : World} {D : Nat} {s : DS} {bs : List Nat} (H : Dec w D s bs) (t : ByteArray) (ht : 0 < t.size) (u : UInt8) (hu : byt t 0 = (u.toNat : Int)) :
    Calls Tryz.prog 190 #[.pointer (some ⟨D, 0, none⟩), .string t] w fun ex w' => ex = .returned (.int .i64 1) ∧ ∃ bs', Dec w' D (behindReturn s u) bs' ∧ Goes bs w bs' w' := by
  obtain ⟨vl, vb, vt, H, rfl⟩ := H
  have HH : Hid (IsD w D s vl vb vt) := H
  obtain ⟨c0, c1, c2, c3, c4, c5, c6, c7, c8, c9, c10, cf⟩ := row11 H.str
  clear H
  have hby : (((t[0]'ht).toNat : Nat) : Int) = byt t 0 := byt_at t 0 ht
  rw [hu] at hby
  have hA := HH.out.at.set 0 (fnV 0)
  have HI : Hid (IsD (w.setCell ⟨D, 0, none⟩ (fnV 0)) D { s with mode := 0 } vl vb vt) := IsD.build HH.out.str hA rfl HH.out.line HH.out.body HH.out.tr HH.out.sep
  have HG : Hid (Goes (ft D vl vb vt) w (ft D vl vb vt) (w.setCell ⟨D, 0, none⟩ (fnV 0))) := goes_ft (hA.ftd _ _ _) (fun g h => .inl h) (fun g h => .inl h) (fun g h => .inl h)
  have HEnd : Hid (∀ e : Int, Calls Tryz.prog 124 #[.pointer (some ⟨D, 0, none⟩), .int .i64 e] (w.setCell ⟨D, 0, none⟩ (.func (.func 104) #[] #[])) fun ex w' => ex = .returned (.tuple #[]) ∧ ∃ bs', Dec w' D (fin { s with mode := 0 } e) bs' ∧ Goes (ft D vl vb vt) (w.setCell ⟨D, 0, none⟩ (fnV 0)) bs' w') := fun e => end_any ⟨vl, vb, vt, HI.out, rfl⟩ e
  clear hA
  by_cases h : u = 10
  · have hb : ((u.toNat : Int) != 10) = false := by subst h; rfl
    have HU : Hid (u = 10) := h
    clear h hu
    generalize (u.toNat : Int) = x at *
    go_enter Tryz.func190, Tryz.ntmps190
    go_wp2
    go_ret
    unfold behindReturn
    rw [if_pos HU.out]
    exact ⟨rfl, _, ⟨vl, vb, vt, HI.out, rfl⟩, HG.out⟩
  · have hb : ((u.toNat : Int) != 10) = true := by
      simp only [bne_iff_ne, ne_eq]
      intro e
      exact h (UInt8.toNat_inj.1 (by show u.toNat = 10; omega))
    have HU : Hid (¬ u = 10) := h
    clear h hu
    generalize (u.toNat : Int) = x at *
    go_enter Tryz.func190, Tryz.ntmps190
    go_wp2_with fail
    refine (HEnd.out 100).mono ?_
    rintro e w3 ⟨rfl, bs3, hd3, hg3⟩
    go_wp2
    go_ret
    unfold behindReturn
    rw [if_neg HU.out]
    exact ⟨rfl, bs3, hd3, HG.out.trans hg3⟩
end Ck
end Go.Proofs.YtdcfhnbagldilaaGreatDoor
set_option linter.unusedVariables false
set_option linter.unusedSimpArgs false
set_option maxRecDepth 100000
namespace Go.Proofs.YtdcfhnbagldilaaGreatDoor
open Go.RowKit Go.Shelf Go.Lib
namespace Ck
open Oc Tg _root_.Go.Proofs.YtdcfhnbagldilaaGreatDoor.Fd
theorem step_appB {ops : Array Oper} {o : Oper} {a : Act} {K : Act → World → Prop} {Q : Exit → Act → World → Prop} {E' : Prop} (hgd : o.guard = none) (s t : Operand)
    (ho : o.op = .call { callee := .builtin .append, args := #[s, t], argTypes := #[53, 53] }) (v : Value) (l : List UInt8) (W : World) (c : Int) (u : UInt8) (hc : c = (u.toNat : Int))
    (hs : a.eval s = v) (hown : Own 0 v l W) (hx : a.eval t = .slice (some ⟨W.heap.size, 0, none⟩) 1 1) (hlen : l.length ≤ 4000000000)
    (h : ∀ g cp w', Hid (Own 0 (.slice (some ⟨g, 0, none⟩) (l.length + 1) cp) (l ++ [u]) w') → Hid (But v.ownBlock.toList W w') → Hid (v.ownBlock = some g ∨ W.heap.size ≤ g) → K (a.put o.dst (.slice (some ⟨g, 0, none⟩) (l.length + 1) cp)) w') :
    if Region.wanted o (yielded ops a.tmps) = true then Oper.wp Tryz.prog o a (W.alloc (.cells #[.int .u8 c] 5)) K Q else E' := by
  obtain ⟨i0, hi, hz0, hz1, hz2⟩ := info5
  refine step_append_lies _ hgd s t 53 ho 0 5 i0 (.int .u8 0) 1 1 Tryz.underlying53 hi hz0 hz1 hz2 rfl (by decide) v l.length _ hs (World.ownsRow.alloc hown _) ⟨W.heap.size, 0, none⟩ 1 1 [.int .u8 c] hx rfl ?_ ?_ (by decide) ?_ ?_ (by omega) (W.alloc (.cells #[.int .u8 c] 5)).heap.size rfl ?_
  · intro j u hj
    match j, hj with
    | 0, hj => simp at hj; subst hj; simp [Addr.add]
  · intro u hu
    simp at hu
    subst hu
    rfl
  · unfold maxLen; omega
  · omega
  · intro g cp w' h2 h3 h4 h5
    subst hc
    refine h g cp w' (own_snoc h2) (((But.refl _ W).alloc _).grown h3 (fun k hk => by rw [hk]; simp)) ?_
    rcases h4 with e | e
    · exact .inl e
    · exact .inr (by rw [e]; simp)
theorem ne_rows {w : World} {g B T T' S S' n n' : Nat} {v v' : Value} {xs xs' : List Value} (h : w.ownsRow B T S v n xs) (h' : w.ownsRow B T' S' v' n' xs') (hT : T ≠ T') (hg : v.ownBlock = some g) : v'.ownBlock ≠ some g := by
  intro hg'
  rcases h.2 with ⟨rfl, _⟩ | ⟨g1, cap, cur, rfl, _, e1, _⟩
  · cases hg
  · rcases h'.2 with ⟨rfl, _⟩ | ⟨g2, cap2, cur2, rfl, _, e2, _⟩
    · cases hg'
    · have a1 : g1 = g := by simpa [Value.ownBlock] using hg
      have a2 : g2 = g := by simpa [Value.ownBlock] using hg'
      subst a1 a2
      rw [e1] at e2
      injection e2 with e
      injection e with _ e3 _
      exact hT e3
theorem IsD.puts {w w6 : World} {D g m cp : Nat} {s : DS} {vl vb vt : Value} {l' : List UInt8} (H : IsD w D s vl vb vt) (ho : Own 0 (.slice (some ⟨g, 0, none⟩) m cp) l' w6) (hb : But vl.ownBlock.toList w w6) (hg : vl.ownBlock = some g ∨ w.heap.size ≤ g) :
    IsD (w6.setCell ⟨D, 8, none⟩ (.slice (some ⟨g, 0, none⟩) m cp)) D { s with line := l' } (.slice (some ⟨g, 0, none⟩) m cp) vb vt ∧ Goes (ft D vl vb vt) w (ft D (.slice (some ⟨g, 0, none⟩) m cp) vb vt) (w6.setCell ⟨D, 8, none⟩ (.slice (some ⟨g, 0, none⟩) m cp)) := by
  have hD6 : w6.heap[D]? = some (.cells (cellsD s vl vb vt) 146 (0, 0)) := hb.heap H.str (fun e => by
    simp at e
    exact ne_row H.str H.line (by decide) e rfl)
  have hA := (At.mk (But.refl [D] w6) hD6).set 8 (.slice (some ⟨g, 0, none⟩) m cp)
  refine ⟨IsD.build hD6 hA rfl ho (hb.owns H.body (fun k hk e => H.sep k (by simpa using e) hk)) (hb.owns H.tr (fun k hk e => ne_rows H.line H.tr (by decide) (by simpa using e) hk)) ?_, goes_ft ?_ ?_ (fun k h => .inl h) (fun k h => .inl h)⟩
  · intro k hk hk2
    have e : g = k := by simpa [Value.ownBlock] using hk
    subst e
    rcases hg with e | e
    · exact H.sep g e hk2
    · have := (World.ownsRow.lt H.body g hk2).2
      omega
  · exact (hb.mono (fun x hx => by simp at hx; simp [ft, hx])).trans (hA.ftd _ _ _)
  · intro k hk
    have e : g = k := by simpa [Value.ownBlock] using hk
    subst e
    exact hg
theorem len_put (s : DS) (u : UInt8) : (put s u).line.length = s.line.length + 1 := by simp [put]
theorem put_ne (s : DS) (u : UInt8) : (put s u).line ≠ [] := by simp [put]
set_option maxHeartbeats 8000000 in
theorem inSize_any {w0 w : World} {D : Nat} {s : DS} {bs : List Nat} (HB : Base w0 w bs) (H : Dec w D s bs) (hl : s.line.length ≤ 3000000000) (hm0 : 0 ≤ s.most) (hm1 : s.most ≤ 9223372036854775807) (t : ByteArray) (ht : 0 < t.size) (u : UInt8) (hu : byt t 0 = (u.toNat : Int)) :
    Calls Tryz.prog 104 #[.pointer (some ⟨D, 0, none⟩), .string t] w fun ex w' => ex = .returned (.int .i64 1) ∧ ∃ bs', Dec w' D (inSize s u) bs' ∧ Goes bs w bs' w' := by
  have HHB : Hid (Base w0 w bs) := HB
  obtain ⟨vl, vb, vt, H, hbs⟩ := H
  obtain ⟨a, c, rfl, hac, hcm, _⟩ := own_form H.line
  have HBS : Hid (bs = ft D (.slice a s.line.length c) vb vt) := hbs
  have HH : Hid (IsD w D s (.slice a s.line.length c) vb vt) := H
  obtain ⟨c0, c1, c2, c3, c4, c5, c6, c7, c8, c9, c10, cf⟩ := row11 H.str
  have HOD : Hid (Own 0 (.slice a s.line.length c) s.line w.drew) := (But.refl [] w).drew.owns H.line (fun _ _ e => by cases e)
  have HSD : Hid (w.drew.heap[D]? = some (.cells (cellsD s (.slice a s.line.length c) vb vt) 146 (0, 0))) := (But.refl [] w).drew.heap H.str (fun e => by cases e)
  have hDlt : D < w.heap.size := (Array.getElem?_eq_some_iff.1 H.str).1
  have q1 : ¬ D = w.heap.size := by omega
  have q2 : ¬ w.heap.size = D := by omega
  have hby : (((t[0]'ht).toNat : Nat) : Int) = byt t 0 := byt_at t 0 ht
  rw [hu] at hby
  have e8 : w.drew.cell? ⟨D, 8, none⟩ = some (.slice a s.line.length c) := c8
  have HU : Hid (u = u) := rfl
  have hu0 : (0 : Int) ≤ (u.toNat : Int) := by omega
  have hu1 : (u.toNat : Int) < 256 := by have := u.toNat_lt; omega
  have HC : Hid ((u.toNat : Int) = (u.toNat : Int)) := rfl
  obtain ⟨x, hx⟩ : ∃ x, x = (u.toNat : Int) := ⟨_, rfl⟩
  rw [← hx] at hby hu0 hu1
  have HX : Hid (x = (u.toNat : Int)) := hx
  have HLN : Hid (s.line.length ≤ 3000000000) := hl
  have a8 : ∀ y, (w.alloc (.cells #[.int .u8 y] 5)).cell? ⟨D, 8, none⟩ = some (.slice a s.line.length c) := fun y => ((But.refl [] w).alloc _).cell c8 (fun e => by cases e)
  clear H hbs HB hx hu HC HU c0 c1 c2 c3 c4 c5 c6 c7 c9 c10
  generalize hn : s.line.length = n at *
  have HN : Hid (s.line.length = n) := hn
  clear hn
  have hnl : n ≤ 3000000000 := hl
  clear hl
  go_enter Tryz.func104, Tryz.ntmps104
  go_wp2_with fail
  go_region_law (refine step_appB rfl (.tmp 9) (.tmp 12) rfl (.slice a n c) s.line w.drew x u HX.out (by simp [Act.eval, Act.put]) HOD.out (by simp [Act.eval, Act.put]) (by have := HN.out; omega) ?_; intro g6 c6' w6 ho6 hb6 hg6; rw [HN.out]; have S6 : Hid (_ = some _) := hb6.out.heap HSD.out (fun e => ne_row HSD.out HOD.out (by decide) (by simpa using e) rfl); obtain ⟨e0, e1, e2, e3, e4, e5, e6, e7, e8, e9, e10, ef⟩ := row11 S6.out)
  all_goals
    have P := IsD.puts HH.out (l' := s.line ++ [u]) (m := n + 1) (by have := ho6.out; rw [HN.out] at this; exact this) ((But.refl _ w).drew.trans hb6.out) hg6.out
    obtain ⟨w7, hw7⟩ : ∃ w7, w7 = w6.setCell ⟨D, 8, none⟩ (.slice (some ⟨g6, 0, none⟩) (n + 1) c6') := ⟨_, rfl⟩
    rw [← hw7] at P ⊢
    clear hw7
    have HI : Hid (IsD w7 D (put s u) (.slice (some ⟨g6, 0, none⟩) (n + 1) c6') vb vt) := P.1
    have HG : Hid (Goes bs w (ft D (.slice (some ⟨g6, 0, none⟩) (n + 1) c6') vb vt) w7) := by rw [HBS.out]; exact P.2
    clear P ho6 hb6 hg6 S6 e0 e1 e2 e3 e4 e5 e6 e7 e8 e9 e10 ef HOD HSD c8 cf a8 q1 q2 hDlt
    obtain ⟨c0, c1, c2, c3, c4, c5, c6, c7, c8, c9, c10, cf⟩ := row11 HI.out.str
    clear c0 c1 c2 c3 c4 c5 c6 c7 c9 c10
    by_cases h10 : u = 10
    · have hx10 : (x == 10) = true := by rw [HX.out, h10]; rfl
      have HU : Hid (u = 10) := h10
      clear h10
      go_wp2_with fail
      refine (endSize_any (HHB.out.goes HG.out) ⟨_, _, _, HI.out, rfl⟩ (by rw [len_put, HN.out]; omega) (put_ne _ _) hm0 hm1).mono ?_
      rintro e w8 ⟨rfl, bs8, hd8, hg8⟩
      have HD8 : Hid (Dec w8 D (endSize (put s u)) bs8) := hd8
      have HG8 : Hid (Goes bs w bs8 w8) := HG.out.trans hg8
      clear hd8 hg8
      go_wp2
      go_ret
      refine ⟨rfl, bs8, ?_, HG8.out⟩
      unfold inSize
      rw [if_pos HU.out]
      exact HD8.out
    · have hx10 : (x == 10) = false := by
        rw [beq_eq_false_iff_ne]
        intro e
        have := HX.out
        exact h10 (UInt8.toNat_inj.1 (by show u.toNat = 10; omega))
      have HU : Hid (¬ u = 10) := h10
      clear h10
      by_cases h256 : n + 1 = 256
      · have hn1 : (((n : Nat) : Int) + 1 == 256) = true := by rw [beq_iff_eq]; omega
        have HN6 : Hid (n + 1 = 256) := h256
        clear h256
        go_wp2_with fail
        refine (end_any ⟨_, _, _, HI.out, rfl⟩ 100).mono ?_
        rintro e w8 ⟨rfl, bs8, hd8, hg8⟩
        have HD8 : Hid (Dec w8 D (fin (put s u) 100) bs8) := hd8
        have HG8 : Hid (Goes bs w bs8 w8) := HG.out.trans hg8
        clear hd8 hg8
        go_wp2
        go_ret
        refine ⟨rfl, bs8, ?_, HG8.out⟩
        unfold inSize
        rw [if_neg HU.out, if_pos (by rw [HN.out]; exact HN6.out)]
        exact HD8.out
      · have hn1 : (((n : Nat) : Int) + 1 == 256) = false := by rw [beq_eq_false_iff_ne]; omega
        have HN6 : Hid (¬ n + 1 = 256) := h256
        clear h256
        go_wp2
        go_ret
        refine ⟨rfl, _, ?_, HG.out⟩
        unfold inSize
        rw [if_neg HU.out, if_neg (by rw [HN.out]; exact HN6.out)]
        exact ⟨_, _, _, HI.out, rfl⟩
end Ck
end Go.Proofs.YtdcfhnbagldilaaGreatDoor
set_option linter.unusedVariables false
set_option linter.unusedSimpArgs false
set_option maxRecDepth 100000
namespace Go.Proofs.YtdcfhnbagldilaaGreatDoor
open Go.RowKit Go.Shelf Go.Lib
namespace Ck
open Oc Tg _root_.Go.Proofs.YtdcfhnbagldilaaGreatDoor.Fd
theorem eq_lit (l k : List UInt8) : ((str l).toList == k) = decide (l = k) := by
  rw [Lib.toList_data, str_list, Bool.eq_iff_iff, beq_iff_eq, decide_eq_true_iff]
theorem ne_lit {l k : List UInt8} (h : l ≠ k) : ((str l).toList == k) = false := by rw [eq_lit, decide_eq_false h]
set_option maxHeartbeats 2000000 in
theorem isHeadsAlone_any (l : List UInt8) (w : World) :
    Calls Tryz.prog 113 #[.string (str l)] w fun e w' => e = .returned (.bool (heads.contains l)) ∧ w' = w := by
  by_cases h : l ∈ heads
  · have hc : heads.contains l = true := by simpa using h
    rw [hc]
    unfold heads at h
    simp only [List.mem_cons, List.not_mem_nil, or_false] at h
    clear hc
    rcases h with rfl | rfl | rfl | rfl | rfl | rfl | rfl | rfl | rfl | rfl | rfl | rfl
    all_goals
      unfold str
      go_enter Tryz.func113, Tryz.ntmps113
      go_wp2
      go_ret
      exact ⟨rfl, rfl⟩
  · have hc : heads.contains l = false := by simpa using h
    rw [hc]
    unfold heads at h
    simp only [List.mem_cons, List.not_mem_nil, or_false, not_or] at h
    obtain ⟨h1, h2, h3, h4, h5, h6, h7, h8, h9, h10, h11, h12⟩ := h
    replace h1 := ne_lit h1
    replace h2 := ne_lit h2
    replace h3 := ne_lit h3
    replace h4 := ne_lit h4
    replace h5 := ne_lit h5
    replace h6 := ne_lit h6
    replace h7 := ne_lit h7
    replace h8 := ne_lit h8
    replace h9 := ne_lit h9
    replace h10 := ne_lit h10
    replace h11 := ne_lit h11
    replace h12 := ne_lit h12
    clear hc
    generalize str l = X at *
    go_enter Tryz.func113, Tryz.ntmps113
    go_wp2
    go_ret
    exact ⟨rfl, rfl⟩
set_option maxHeartbeats 1000000 in
theorem MayTrail_any (l : List UInt8) (hl : l.length ≤ maxLen) (w : World) (t : Tab w) :
    Calls Tryz.prog 94 #[.string (str l)] w fun e w' => e = .returned (.bool (trails l)) ∧ Below w.heap.size w w' := by
  have HN : Hid (Calls Tryz.prog 112 #[.string (str l)] w fun e w' => e = .returned (.bool (isName l)) ∧ Below w.heap.size w w') := by
    have h := IsName_any (str l) (by rw [str_size]; exact hl) w t
    rw [str_list] at h
    exact h
  have HL : Hid (∀ w, Calls Tryz.prog 114 #[.string (str l)] w fun e w' => e = .returned (.string (str (lower l))) ∧ Below w.heap.size w w') := fun w => by
    have h := Lower_any (str l) (by rw [str_size]; exact hl) w
    unfold lowS at h
    rw [str_list] at h
    exact h
  have HH : Hid (∀ w, Calls Tryz.prog 113 #[.string (str (lower l))] w fun e w' => e = .returned (.bool (heads.contains (lower l))) ∧ w' = w) := fun w => isHeadsAlone_any _ w
  unfold trails
  generalize isName l = b at *
  generalize heads.contains (lower l) = c at *
  generalize str (lower l) = M at *
  generalize str l = X at *
  clear hl t
  cases b with
  | false =>
    go_enter Tryz.func94, Tryz.ntmps94
    go_wp2_with fail
    refine HN.out.mono ?_
    rintro e w1 ⟨rfl, hb1⟩
    go_wp2
    go_ret
    exact ⟨ret_bool (by simp), hb1⟩
  | true =>
    go_enter Tryz.func94, Tryz.ntmps94
    go_wp2_with fail
    refine HN.out.mono ?_
    rintro e w1 ⟨rfl, hb1⟩
    have HB1 : Hid (Below w.heap.size w w1) := hb1
    clear hb1
    go_wp2_with fail
    refine (HL.out _).mono ?_
    rintro e w2 ⟨rfl, hb2⟩
    have HB2 : Hid (Below w.heap.size w w2) := bel_trans HB1.out hb2
    clear hb2
    go_wp2_with fail
    refine (HH.out _).mono ?_
    rintro e w3 ⟨rfl, hw⟩
    rw [hw]
    go_wp2
    go_ret
    exact ⟨ret_bool (by simp), HB2.out⟩
end Ck
end Go.Proofs.YtdcfhnbagldilaaGreatDoor
set_option linter.unusedVariables false
set_option linter.unusedSimpArgs false
set_option maxRecDepth 100000
namespace Go.Proofs.YtdcfhnbagldilaaGreatDoor
open Go.RowKit Go.Shelf Go.Lib
namespace Ck
open Oc Tg _root_.Go.Proofs.YtdcfhnbagldilaaGreatDoor.Fd
theorem step_appF {ops : Array Oper} {o : Oper} {a : Act} {K : Act → World → Prop} {Q : Exit → Act → World → Prop} {E' : Prop} (hgd : o.guard = none) (s x : Operand)
    (ho : o.op = .call { callee := .builtin .append, args := #[s, x], argTypes := #[25, 25] }) (v : Value) (t : List Fl) (W : World) (p : Fl) (n1 n2 : ByteArray) (h1 : n1 = str p.1) (h2 : n2 = str p.2)
    (hs : a.eval s = v) (hown : OwnF 47 0 v t W) (hx : a.eval x = .slice (some ⟨W.heap.size, 0, none⟩) 1 1) (hlen : t.length + 1 ≤ 2147483648)
    (h : ∀ g cp w', Hid (OwnF 47 0 (.slice (some ⟨g, 0, none⟩) (t.length + 1) cp) (t ++ [p]) w') → Hid (But v.ownBlock.toList W w') → Hid (v.ownBlock = some g ∨ W.heap.size ≤ g) → K (a.put o.dst (.slice (some ⟨g, 0, none⟩) (t.length + 1) cp)) w') :
    if Region.wanted o (yielded ops a.tmps) = true then Oper.wp Tryz.prog o a (W.alloc (.cells #[.string n1, .string n2] 47)) K Q else E' := by
  subst h1 h2
  obtain ⟨i0, hi, hz0, hz1, hz2⟩ := info_parts infoF
  refine step_append_lies _ hgd s x 25 ho 0 47 i0 (.agg #[.string ⟨#[]⟩, .string ⟨#[]⟩]) 2 32 Tryz.underlying25 hi hz0 hz1 hz2 rfl (by decide) v t.length _ hs (World.ownsRow.alloc hown _) ⟨W.heap.size, 0, none⟩ 1 1 (encF1 p) hx rfl ?_ ?_ (by decide) ?_ ?_ (by omega) (W.alloc (.cells #[.string (str p.1), .string (str p.2)] 47)).heap.size rfl ?_
  · intro j u hj
    unfold encF1 at hj
    match j, hj with
    | 0, hj => simp at hj; subst hj; simp [Addr.add]
    | 1, hj => simp at hj; subst hj; simp [Addr.add]
  · intro u hu
    unfold encF1 at hu
    simp at hu
    rcases hu with rfl | rfl <;> rfl
  · unfold maxLen; omega
  · omega
  · intro g cp w' h2 h3 h4 h5
    refine h g cp w' ?_ (((But.refl _ W).alloc _).grown h3 (fun k hk => by rw [hk]; simp)) ?_
    · show OwnF _ _ _ _ _
      unfold OwnF
      rw [encF_snoc, List.length_append]
      exact h2
    · rcases h4 with e | e
      · exact .inl e
      · exact .inr (by rw [e]; simp)
theorem IsD.adds {w w6 : World} {D g m cp : Nat} {s : DS} {vl vb vt : Value} {l' : List Fl} (H : IsD w D s vl vb vt) (ho : OwnF 47 0 (.slice (some ⟨g, 0, none⟩) m cp) l' w6) (hb : But vt.ownBlock.toList w w6) (hg : vt.ownBlock = some g ∨ w.heap.size ≤ g) :
    IsD (w6.setCell ⟨D, 10, none⟩ (.slice (some ⟨g, 0, none⟩) m cp)) D { s with tr := l' } vl vb (.slice (some ⟨g, 0, none⟩) m cp) ∧ Goes (ft D vl vb vt) w (ft D vl vb (.slice (some ⟨g, 0, none⟩) m cp)) (w6.setCell ⟨D, 10, none⟩ (.slice (some ⟨g, 0, none⟩) m cp)) := by
  have hD6 : w6.heap[D]? = some (.cells (cellsD s vl vb vt) 146 (0, 0)) := hb.heap H.str (fun e => by
    simp at e
    exact ne_row H.str H.tr (by decide) e rfl)
  have hA := (At.mk (But.refl [D] w6) hD6).set 10 (.slice (some ⟨g, 0, none⟩) m cp)
  refine ⟨IsD.build hD6 hA rfl (hb.owns H.line (fun k hk e => ne_rows H.tr H.line (by decide) (by simpa using e) hk)) (hb.owns H.body (fun k hk e => ne_rows H.tr H.body (by decide) (by simpa using e) hk)) ho H.sep, goes_ft ?_ (fun k h => .inl h) (fun k h => .inl h) ?_⟩
  · exact (hb.mono (fun x hx => by simp at hx; simp [ft, hx])).trans (hA.ftd _ _ _)
  · intro k hk
    have e : g = k := by simpa [Value.ownBlock] using hk
    subst e
    exact hg
theorem ownF_form {T B : Nat} {w : World} {v : Value} {l : List Fl} (h : OwnF T B v l w) : ∃ a c, v = .slice a l.length c := by
  rcases h.2 with ⟨rfl, h0⟩ | ⟨g, cap, cur, rfl, _, _, hn, hm, _⟩
  · exact ⟨none, 0, by rw [h0]⟩
  · exact ⟨_, cap, rfl⟩
set_option maxHeartbeats 8000000 in
theorem keepTrailer_any {w0 w : World} {D : Nat} {s : DS} {bs : List Nat} (HB : Base w0 w bs) (H : Dec w D s bs) (l : List UInt8) (hl : l.length ≤ 4000000000) (hf0 : 0 ≤ s.fields) (hf1 : s.fields ≤ 9223372036854775807) (htr : s.tr.length + 1 ≤ 2147483648) :
    Calls Tryz.prog 189 #[.pointer (some ⟨D, 0, none⟩), .string (str l)] w fun ex w' => ex = .returned (.tuple #[]) ∧ ∃ bs', Dec w' D (keep s l) bs' ∧ Goes bs w bs' w' := by
  have HHB : Hid (Base w0 w bs) := HB
  have HDD : Hid (Dec w D s bs) := H
  have HP : Hid (Calls Tryz.prog 121 #[.string (str l)] w fun e w' => e = .returned (lineV (parseL l)) ∧ Below w.heap.size w w') := by
    have h := ParseLine_any (str l) (by rw [str_size]; exact hl) w HB.at
    rw [str_list] at h
    exact h
  have hnl : (parseL l).1.1.length ≤ 4000000000 := by
    have := cutA_len 58 l
    unfold parseL
    repeat' split
    all_goals (simp only [List.length_nil]; try omega)
  have HM : Hid (∀ w, Tab w → Calls Tryz.prog 94 #[.string (str (parseL l).1.1)] w fun e w' => e = .returned (.bool (trails (parseL l).1.1)) ∧ Below w.heap.size w w') := fun w t => MayTrail_any _ (by unfold maxLen; omega) w t
  have HK : Hid (keep s l = if (parseL l).2.2 ≠ 0 ∨ trails (parseL l).1.1 = false then fin s 101 else { s with fields := s.fields - 1, tr := s.tr ++ [(parseL l).1] }) := rfl
  unfold lineV at HP
  generalize parseL l = q at *
  obtain ⟨⟨p1, p2⟩, pl, pe⟩ := q
  simp only at HP HM HK
  generalize trails p1 = mt at *
  generalize str l = L at *
  obtain ⟨n1, hn1⟩ : ∃ n1, n1 = str p1 := ⟨_, rfl⟩
  obtain ⟨n2, hn2⟩ : ∃ n2, n2 = str p2 := ⟨_, rfl⟩
  rw [← hn1] at HP HM
  rw [← hn2] at HP
  have HN1 : Hid (n1 = str p1) := hn1
  have HN2 : Hid (n2 = str p2) := hn2
  clear hn1 hn2 hl hnl H HB
  go_enter Tryz.func189, Tryz.ntmps189
  go_wp2_with fail
  refine HP.out.mono ?_
  rintro e w1 ⟨rfl, hb1⟩
  have HD1 : Hid (Dec w1 D s bs) := HDD.out.below hb1
  have HG1 : Hid (Goes bs w bs w1) := Goes.below hb1
  clear hb1 HDD HP
  by_cases he : pe = 0
  · subst he
    have hBA : Below w1.heap.size w1 (w1.alloc (.cells #[.string n1, .string n2] 47)) := (Below.refl _ w1).alloc (Nat.le_refl _) _
    have HDA : Hid (Dec (w1.alloc (.cells #[.string n1, .string n2] 47)) D s bs) := HD1.out.below hBA
    have HGA : Hid (Goes bs w bs (w1.alloc (.cells #[.string n1, .string n2] 47))) := HG1.out.trans (Goes.below hBA)
    have hRA : (w1.alloc (.cells #[.string n1, .string n2] 47)).heap[w1.heap.size]? = some (.cells #[.string n1, .string n2] 47 (0, 0)) := heap_alloc_new _ _
    have HRA : Hid ((w1.alloc (.cells #[.string n1, .string n2] 47)).heap[w1.heap.size]? = some (.cells #[.string n1, .string n2] 47 (0, 0))) := hRA
    have HDlt : Hid (D < w1.heap.size) := HD1.out.lt D HD1.out.mem
    clear hBA hRA
    go_wp2_with fail
    refine (HM.out _ (HHB.out.goes HGA.out).at.1).mono ?_
    rintro e w2 ⟨rfl, hb2⟩
    have HD2 : Hid (Dec w2 D s bs) := HDA.out.below hb2
    have HG2 : Hid (Goes bs w bs w2) := HGA.out.trans (Goes.below hb2)
    have HR2 : Hid (w2.heap[w1.heap.size]? = some (.cells #[.string n1, .string n2] 47 (0, 0))) := (But.of_below hb2).heap HRA.out (fun e => by cases e)
    clear hb2 HDA HGA HRA HD1 HG1 HM
    generalize hBz : w1.heap.size = B at *
    clear hBz
    cases mt with
    | false =>
      go_wp2_with fail
      refine (end_any HD2.out 101).mono ?_
      rintro e w3 ⟨rfl, bs3, hd3, hg3⟩
      have HD3 : Hid (Dec w3 D (fin s 101) bs3) := hd3
      have HG3 : Hid (Goes bs w bs3 w3) := HG2.out.trans hg3
      clear hd3 hg3
      go_wp2
      refine bodyPost_ret (results_none rfl _ _ _) rfl ?_
      rw [HK.out, if_pos (by simp)]
      exact ⟨rfl, bs3, HD3.out, HG3.out⟩
    | true =>
      obtain ⟨vl, vb, vt, HI, hbs⟩ := HD2.out
      obtain ⟨a, c, rfl⟩ := ownF_form HI.tr
      have HI2 : Hid (IsD w2 D s vl vb (.slice a s.tr.length c)) := HI
      have HBS : Hid (bs = ft D vl vb (.slice a s.tr.length c)) := hbs
      obtain ⟨c0, c1, c2, c3, c4, c5, c6, c7, c8, c9, c10, cf⟩ := row11 HI.str
      have hA := HI.at.set 5 (.int .i64 (s.fields - 1))
      have HI3 : Hid (IsD (w2.setCell ⟨D, 5, none⟩ (.int .i64 (s.fields - 1))) D { s with fields := s.fields - 1 } vl vb (.slice a s.tr.length c)) := IsD.build HI.str hA rfl HI.line HI.body HI.tr HI.sep
      have HG3 : Hid (Goes (ft D vl vb (.slice a s.tr.length c)) w2 (ft D vl vb (.slice a s.tr.length c)) (w2.setCell ⟨D, 5, none⟩ (.int .i64 (s.fields - 1)))) := goes_ft (hA.ftd _ _ _) (fun g h => .inl h) (fun g h => .inl h) (fun g h => .inl h)
      have HR3 : Hid ((w2.setCell ⟨D, 5, none⟩ (.int .i64 (s.fields - 1))).heap[B]? = some (.cells #[.string n1, .string n2] 47 (0, 0))) := hA.but.heap HR2.out (fun e => by have := HDlt.out; simp at e; omega)
      clear hA HI hbs c0 c1 c2 c3 c4 c6 c7 c8 c9 c10
      go_wp2_with fail
      obtain ⟨w3, hw3⟩ : ∃ w3, w3 = w2.setCell ⟨D, 5, none⟩ (.int .i64 (s.fields - 1)) := ⟨_, rfl⟩
      rw [← hw3] at HI3 HG3 HR3 ⊢
      clear hw3 c5 cf
      have hBlt : B < w3.heap.size := (Array.getElem?_eq_some_iff.1 HR3.out).1
      have hDlt : D < w3.heap.size := (Array.getElem?_eq_some_iff.1 HI3.out.str).1
      obtain ⟨_, _, _, _, _, _, _, _, _, _, c10, cf⟩ := row11 HI3.out.str
      have b0 : w3.cell? ⟨B, 0, none⟩ = some (.string n1) := by rw [cell_of_row w3 B _ _ _ _ HR3.out]; rfl
      have b1 : w3.cell? ⟨B, 1, none⟩ = some (.string n2) := by rw [cell_of_row w3 B _ _ _ _ HR3.out]; rfl
      have HOD : Hid (OwnF 47 0 (.slice a s.tr.length c) s.tr w3.drew) := (But.refl [] w3).drew.owns HI3.out.tr (fun _ _ e => by cases e)
      have HSD : Hid (w3.drew.heap[D]? = some (.cells (cellsD { s with fields := s.fields - 1 } vl vb (.slice a s.tr.length c)) 146 (0, 0))) := (But.refl [] w3).drew.heap HI3.out.str (fun e => by cases e)
      have q1 : ¬ D = w3.heap.size := by omega
      have q2 : ¬ w3.heap.size = D := by omega
      have q3 : ¬ B = w3.heap.size := by omega
      have q4 : ¬ w3.heap.size = B := by omega
      have d10 : w3.drew.cell? ⟨D, 10, none⟩ = some (.slice a s.tr.length c) := c10
      have d0 : w3.drew.cell? ⟨B, 0, none⟩ = some (.string n1) := b0
      have d1 : w3.drew.cell? ⟨B, 1, none⟩ = some (.string n2) := b1
      have a10 : (w3.alloc (.cells #[.string n1, .string n2] 47)).cell? ⟨D, 10, none⟩ = some (.slice a s.tr.length c) := ((But.refl [] w3).alloc _).cell c10 (fun e => by cases e)
      generalize hm : s.tr.length = m at *
      have HMM : Hid (s.tr.length = m) := hm
      have htr' : m + 1 ≤ 2147483648 := htr
      clear hm htr
      go_region_law (refine step_appF rfl (.tmp 34) (.tmp 36) rfl (.slice a m c) s.tr w3.drew (p1, p2) n1 n2 HN1.out HN2.out (by simp [Act.eval, Act.put]) HOD.out (by simp [Act.eval, Act.put]) (by have := HMM.out; omega) ?_; intro g6 c6' w6 ho6 hb6 hg6; rw [HMM.out]; have S6 : Hid (_ = some _) := hb6.out.heap HSD.out (fun e => ne_row HSD.out HOD.out (by decide) (by simpa using e) rfl); obtain ⟨e0, e1, e2, e3, e4, e5, e6, e7, e8, e9, e10, ef⟩ := row11 S6.out)
      all_goals
        have P := IsD.adds HI3.out (l' := s.tr ++ [(p1, p2)]) (m := m + 1) (by have := ho6.out; rw [HMM.out] at this; exact this) ((But.refl _ w3).drew.trans hb6.out) hg6.out
        obtain ⟨w7, hw7⟩ : ∃ w7, w7 = w6.setCell ⟨D, 10, none⟩ (.slice (some ⟨g6, 0, none⟩) (m + 1) c6') := ⟨_, rfl⟩
        rw [← hw7] at P ⊢
        clear hw7
        have HIF : Hid (IsD w7 D { s with fields := s.fields - 1, tr := s.tr ++ [(p1, p2)] } vl vb (.slice (some ⟨g6, 0, none⟩) (m + 1) c6')) := P.1
        have HGF : Hid (Goes bs w (ft D vl vb (.slice (some ⟨g6, 0, none⟩) (m + 1) c6')) w7) := by
          have h2 := HG2.out
          rw [HBS.out] at h2 ⊢
          exact (h2.trans HG3.out).trans P.2
        clear P ho6 hb6 hg6 S6 e0 e1 e2 e3 e4 e5 e6 e7 e8 e9 e10 ef
        go_wp2
        go_end0
        rw [HK.out, if_neg (by simp)]
        exact ⟨rfl, _, ⟨_, _, _, HIF.out, rfl⟩, HGF.out⟩
  · have he1 : (pe != 0) = true := by simp [he]
    have HE : Hid (pe ≠ 0) := he
    clear he
    have hBA : Below w1.heap.size w1 (w1.alloc (.cells #[.string n1, .string n2] 47)) := (Below.refl _ w1).alloc (Nat.le_refl _) _
    have HDA : Hid (Dec (w1.alloc (.cells #[.string n1, .string n2] 47)) D s bs) := HD1.out.below hBA
    have HGA : Hid (Goes bs w bs (w1.alloc (.cells #[.string n1, .string n2] 47))) := HG1.out.trans (Goes.below hBA)
    clear hBA
    go_wp2_with fail
    refine (end_any HDA.out 101).mono ?_
    rintro e w3 ⟨rfl, bs3, hd3, hg3⟩
    have HD3 : Hid (Dec w3 D (fin s 101) bs3) := hd3
    have HG3 : Hid (Goes bs w bs3 w3) := HGA.out.trans hg3
    clear hd3 hg3
    go_wp2
    refine bodyPost_ret (results_none rfl _ _ _) rfl ?_
    rw [HK.out, if_pos (.inl HE.out)]
    exact ⟨rfl, bs3, HD3.out, HG3.out⟩
set_option maxHeartbeats 4000000 in
theorem endTrailer_any {w0 w : World} {D : Nat} {s : DS} {bs : List Nat} (HB : Base w0 w bs) (H : Dec w D s bs) (hl : s.line.length ≤ 4000000000) (hne : s.line ≠ []) (hf0 : 0 ≤ s.fields) (hf1 : s.fields ≤ 9223372036854775807) (htr : s.tr.length + 1 ≤ 2147483648) :
    Calls Tryz.prog 165 #[.pointer (some ⟨D, 0, none⟩)] w fun ex w' => ex = .returned (.tuple #[]) ∧ ∃ bs', Dec w' D (endTrailer s) bs' ∧ Goes bs w bs' w' := by
  have HHB : Hid (Base w0 w bs) := HB
  have HT : Hid (Calls Tryz.prog 143 #[.pointer (some ⟨D, 0, none⟩)] w fun ex w' => ex = .returned (.tuple #[.string (str (said s)), .bool (right s)]) ∧ ∃ bs', Dec w' D (bare s) bs' ∧ Goes bs w bs' w') := takeLine_any H hl hne
  have hsl : (said s).length ≤ 4000000000 := Nat.le_trans (said_le s) hl
  have HE : Hid (endTrailer s = if right s = false then fin (bare s) 101 else if said s = [] then fin (bare s) 0 else if s.fields = 0 then fin (bare s) 104 else keep (bare s) (said s)) := rfl
  have HKp : Hid (∀ (w1 : World) (bs1 : List Nat), Base w0 w1 bs1 → Dec w1 D (bare s) bs1 → Calls Tryz.prog 189 #[.pointer (some ⟨D, 0, none⟩), .string (str (said s))] w1 fun ex w' => ex = .returned (.tuple #[]) ∧ ∃ bs', Dec w' D (keep (bare s) (said s)) bs' ∧ Goes bs1 w1 bs' w') := fun w1 bs1 hb1 hd1 => keepTrailer_any hb1 hd1 _ hsl hf0 hf1 htr
  have HM : Hid (said s = [] ∧ (str (said s)).toList.isEmpty = true ∨ said s ≠ [] ∧ (str (said s)).toList.isEmpty = false) := by
    by_cases h : said s = []
    · exact .inl ⟨h, empty_of (by rw [h]; rfl)⟩
    · exact .inr ⟨h, nonempty_of (by rw [str_size]; exact fun e => h (List.length_eq_zero_iff.1 e))⟩
  generalize right s = r at *
  generalize str (said s) = L at *
  clear H HB hl hne hsl htr
  go_enter Tryz.func165, Tryz.ntmps165
  go_wp2_with fail
  refine HT.out.mono ?_
  rintro e w1 ⟨rfl, bs1, hd1, hg1⟩
  have HD1 : Hid (Dec w1 D (bare s) bs1) := hd1
  have HG1 : Hid (Goes bs w bs1 w1) := hg1
  clear hd1 hg1 HT
  cases r with
  | false =>
    go_wp2_with fail
    refine (end_any HD1.out 101).mono ?_
    rintro e w3 ⟨rfl, bs3, hd3, hg3⟩
    have HD3 : Hid (Dec w3 D (fin (bare s) 101) bs3) := hd3
    have HG3 : Hid (Goes bs w bs3 w3) := HG1.out.trans hg3
    clear hd3 hg3
    go_wp2
    go_end0
    rw [HE.out, if_pos (by simp)]
    exact ⟨rfl, bs3, HD3.out, HG3.out⟩
  | true =>
    rcases HM.out with ⟨hs0, hL⟩ | ⟨hs0, hL⟩
    · have HS0 : Hid (said s = []) := hs0
      clear hs0 HM
      go_wp2_with fail
      refine (end_any HD1.out 0).mono ?_
      rintro e w3 ⟨rfl, bs3, hd3, hg3⟩
      have HD3 : Hid (Dec w3 D (fin (bare s) 0) bs3) := hd3
      have HG3 : Hid (Goes bs w bs3 w3) := HG1.out.trans hg3
      clear hd3 hg3
      go_wp2
      go_end0
      rw [HE.out, if_neg (by simp), if_pos HS0.out]
      exact ⟨rfl, bs3, HD3.out, HG3.out⟩
    · have HS0 : Hid (said s ≠ []) := hs0
      clear hs0 HM
      obtain ⟨vl, vb, vt, c0, c1, c2, c3, c4, c5, c6, c7, c8, c9, c10, cf⟩ := HD1.out.cells
      have c5' : w1.cell? ⟨D, 5, none⟩ = some (.int .i64 s.fields) := c5
      clear c0 c1 c2 c3 c4 c5 c6 c7 c8 c9 c10
      by_cases h0 : s.fields = 0
      · have h0' : (s.fields == 0) = true := by simp [h0]
        have HF0 : Hid (s.fields = 0) := h0
        clear h0
        go_wp2_with fail
        refine (end_any HD1.out 104).mono ?_
        rintro e w3 ⟨rfl, bs3, hd3, hg3⟩
        have HD3 : Hid (Dec w3 D (fin (bare s) 104) bs3) := hd3
        have HG3 : Hid (Goes bs w bs3 w3) := HG1.out.trans hg3
        clear hd3 hg3
        go_wp2
        go_end0
        rw [HE.out, if_neg (by simp), if_neg HS0.out, if_pos HF0.out]
        exact ⟨rfl, bs3, HD3.out, HG3.out⟩
      · have h0' : (s.fields == 0) = false := by simp [h0]
        have HF0 : Hid (¬ s.fields = 0) := h0
        clear h0
        go_wp2_with fail
        refine (HKp.out _ _ (HHB.out.goes HG1.out) HD1.out).mono ?_
        rintro e w3 ⟨rfl, bs3, hd3, hg3⟩
        have HD3 : Hid (Dec w3 D (keep (bare s) (said s)) bs3) := hd3
        have HG3 : Hid (Goes bs w bs3 w3) := HG1.out.trans hg3
        clear hd3 hg3
        go_wp2
        go_end0
        rw [HE.out, if_neg (by simp), if_neg HS0.out, if_neg HF0.out]
        exact ⟨rfl, bs3, HD3.out, HG3.out⟩
set_option maxHeartbeats 8000000 in
theorem inTrailers_any {w0 w : World} {D : Nat} {s : DS} {bs : List Nat} (HB : Base w0 w bs) (H : Dec w D s bs) (hl : s.line.length ≤ 3000000000) (hr0 : 0 ≤ s.room) (hr1 : s.room ≤ 9223372036854775807) (hf0 : 0 ≤ s.fields) (hf1 : s.fields ≤ 9223372036854775807) (htr : s.tr.length + 1 ≤ 2147483648) (t : ByteArray) (ht : 0 < t.size) (u : UInt8) (hu : byt t 0 = (u.toNat : Int)) :
    Calls Tryz.prog 145 #[.pointer (some ⟨D, 0, none⟩), .string t] w fun ex w' => ex = .returned (.int .i64 1) ∧ ∃ bs', Dec w' D (inTrailers s u) bs' ∧ Goes bs w bs' w' := by
  have HHB : Hid (Base w0 w bs) := HB
  have HDD : Hid (Dec w D s bs) := H
  obtain ⟨vl, vb, vt, H, hbs⟩ := H
  obtain ⟨a, c, rfl, hac, hcm, _⟩ := own_form H.line
  have HBS : Hid (bs = ft D (.slice a s.line.length c) vb vt) := hbs
  obtain ⟨c0, c1, c2, c3, c4, c5, c6, c7, c8, c9, c10, cf⟩ := row11 H.str
  by_cases h0 : s.room = 0
  · have h0' : (s.room == 0) = true := by simp [h0]
    have HF0 : Hid (s.room = 0) := h0
    clear h0 H c0 c1 c2 c3 c5 c6 c7 c8 c9 c10 hbs HB
    go_enter Tryz.func145, Tryz.ntmps145
    go_wp2_with fail
    refine (end_any HDD.out 104).mono ?_
    rintro e w3 ⟨rfl, bs3, hd3, hg3⟩
    have HD3 : Hid (Dec w3 D (fin s 104) bs3) := hd3
    have HG3 : Hid (Goes bs w bs3 w3) := hg3
    clear hd3 hg3
    go_wp2
    go_ret
    refine ⟨rfl, bs3, ?_, HG3.out⟩
    unfold inTrailers
    rw [if_pos HF0.out]
    exact HD3.out
  have h0' : (s.room == 0) = false := by simp [h0]
  have HF0 : Hid (¬ s.room = 0) := h0
  have hA := H.at.set 4 (.int .i64 (s.room - 1))
  have HI3 : Hid (IsD (w.setCell ⟨D, 4, none⟩ (.int .i64 (s.room - 1))) D { s with room := s.room - 1 } (.slice a s.line.length c) vb vt) := IsD.build H.str hA rfl H.line H.body H.tr H.sep
  have HG3 : Hid (Goes (ft D (.slice a s.line.length c) vb vt) w (ft D (.slice a s.line.length c) vb vt) (w.setCell ⟨D, 4, none⟩ (.int .i64 (s.room - 1)))) := goes_ft (hA.ftd _ _ _) (fun g h => .inl h) (fun g h => .inl h) (fun g h => .inl h)
  have hby : (((t[0]'ht).toNat : Nat) : Int) = byt t 0 := byt_at t 0 ht
  rw [hu] at hby
  have hu0 : (0 : Int) ≤ (u.toNat : Int) := by omega
  have hu1 : (u.toNat : Int) < 256 := by have := u.toNat_lt; omega
  obtain ⟨x, hx⟩ : ∃ x, x = (u.toNat : Int) := ⟨_, rfl⟩
  rw [← hx] at hby hu0 hu1
  have HX : Hid (x = (u.toNat : Int)) := hx
  clear h0 H c0 c1 c2 c3 c5 c6 c7 c8 c9 c10 hbs HB hA hx hu HDD
  go_enter Tryz.func145, Tryz.ntmps145
  go_wp2_with fail
  obtain ⟨w3, hw3⟩ : ∃ w3, w3 = w.setCell ⟨D, 4, none⟩ (.int .i64 (s.room - 1)) := ⟨_, rfl⟩
  rw [← hw3] at HI3 HG3 ⊢
  clear hw3 c4 cf
  obtain ⟨_, _, _, _, _, _, _, _, c8, _, _, cf⟩ := row11 HI3.out.str
  have HOD : Hid (Own 0 (.slice a s.line.length c) s.line w3.drew) := (But.refl [] w3).drew.owns HI3.out.line (fun _ _ e => by cases e)
  have HSD : Hid (w3.drew.heap[D]? = some (.cells (cellsD { s with room := s.room - 1 } (.slice a s.line.length c) vb vt) 146 (0, 0))) := (But.refl [] w3).drew.heap HI3.out.str (fun e => by cases e)
  have hDlt : D < w3.heap.size := (Array.getElem?_eq_some_iff.1 HI3.out.str).1
  have q1 : ¬ D = w3.heap.size := by omega
  have q2 : ¬ w3.heap.size = D := by omega
  have e8 : w3.drew.cell? ⟨D, 8, none⟩ = some (.slice a s.line.length c) := c8
  have a8 : ∀ y, (w3.alloc (.cells #[.int .u8 y] 5)).cell? ⟨D, 8, none⟩ = some (.slice a s.line.length c) := fun y => ((But.refl [] w3).alloc _).cell c8 (fun e => by cases e)
  generalize hn : s.line.length = n at *
  have HN : Hid (s.line.length = n) := hn
  clear hn
  have hnl : n ≤ 3000000000 := hl
  clear hl
  go_region_law (refine step_appB rfl (.tmp 23) (.tmp 26) rfl (.slice a n c) s.line w3.drew x u HX.out (by simp [Act.eval, Act.put]) HOD.out (by simp [Act.eval, Act.put]) (by have := HN.out; omega) ?_; intro g6 c6' w6 ho6 hb6 hg6; rw [HN.out]; have S6 : Hid (_ = some _) := hb6.out.heap HSD.out (fun e => ne_row HSD.out HOD.out (by decide) (by simpa using e) rfl); obtain ⟨e0, e1, e2, e3, e4, e5, e6, e7, e8, e9, e10, ef⟩ := row11 S6.out)
  all_goals
    have P := IsD.puts HI3.out (l' := s.line ++ [u]) (m := n + 1) (by have := ho6.out; rw [HN.out] at this; exact this) ((But.refl _ w3).drew.trans hb6.out) hg6.out
    obtain ⟨w7, hw7⟩ : ∃ w7, w7 = w6.setCell ⟨D, 8, none⟩ (.slice (some ⟨g6, 0, none⟩) (n + 1) c6') := ⟨_, rfl⟩
    rw [← hw7] at P ⊢
    clear hw7
    have HI : Hid (IsD w7 D (put { s with room := s.room - 1 } u) (.slice (some ⟨g6, 0, none⟩) (n + 1) c6') vb vt) := P.1
    have HG : Hid (Goes bs w (ft D (.slice (some ⟨g6, 0, none⟩) (n + 1) c6') vb vt) w7) := by rw [HBS.out]; exact HG3.out.trans P.2
    clear P ho6 hb6 hg6 S6 e0 e1 e2 e3 e4 e5 e6 e7 e8 e9 e10 ef HOD HSD c8 cf a8 q1 q2 hDlt
    by_cases h10 : u = 10
    · have hx10 : (x == 10) = true := by rw [HX.out, h10]; rfl
      have HU : Hid (u = 10) := h10
      clear h10
      go_wp2_with fail
      refine (endTrailer_any (HHB.out.goes HG.out) ⟨_, _, _, HI.out, rfl⟩ (by rw [len_put]; show s.line.length + 1 ≤ _; rw [HN.out]; omega) (put_ne _ _) hf0 hf1 htr).mono ?_
      rintro e w8 ⟨rfl, bs8, hd8, hg8⟩
      have HD8 : Hid (Dec w8 D (endTrailer (put { s with room := s.room - 1 } u)) bs8) := hd8
      have HG8 : Hid (Goes bs w bs8 w8) := HG.out.trans hg8
      clear hd8 hg8
      go_wp2
      go_ret
      refine ⟨rfl, bs8, ?_, HG8.out⟩
      unfold inTrailers
      rw [if_neg HF0.out, if_pos HU.out]
      exact HD8.out
    · have hx10 : (x == 10) = false := by
        rw [beq_eq_false_iff_ne]
        intro e
        have := HX.out
        exact h10 (UInt8.toNat_inj.1 (by show u.toNat = 10; omega))
      have HU : Hid (¬ u = 10) := h10
      clear h10
      go_wp2
      go_ret
      refine ⟨rfl, _, ?_, HG.out⟩
      unfold inTrailers
      rw [if_neg HF0.out, if_neg HU.out]
      exact ⟨_, _, _, HI.out, rfl⟩
end Ck
end Go.Proofs.YtdcfhnbagldilaaGreatDoor
