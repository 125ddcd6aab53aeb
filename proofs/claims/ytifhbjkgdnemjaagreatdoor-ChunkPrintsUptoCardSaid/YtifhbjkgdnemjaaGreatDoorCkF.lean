/-
  chunk: inSize.
-/
import Derived.Test.YtifhbjkgdnemjaaGreatDoorCkE
set_option linter.unusedVariables false
set_option linter.unusedSimpArgs false
set_option maxRecDepth 100000
namespace Go.Proofs.YtifhbjkgdnemjaaGreatDoor
open Go.RowKit Go.Shelf Go.Lib
namespace Ck
open Oc Tg _root_.Go.Proofs.YtifhbjkgdnemjaaGreatDoor.Fd

/-- A byte appended, in a region that draws its order. -/
theorem step_appB {ops : Array Oper} {o : Oper} {a : Act} {K : Act → World → Prop} {Q : Exit → Act → World → Prop} {E' : Prop} (hgd : o.guard = none) (s t : Operand)
    (ho : o.op = .call { callee := .builtin .append, args := #[s, t], argTypes := #[72, 72] }) (v : Value) (l : List UInt8) (W : World) (c : Int) (u : UInt8) (hc : c = (u.toNat : Int))
    (hs : a.eval s = v) (hown : Own 0 v l W) (hx : a.eval t = .slice (some ⟨W.heap.size, 0, none⟩) 1 1) (hlen : l.length ≤ 4000000000)
    (h : ∀ g cp w', Hid (Own 0 (.slice (some ⟨g, 0, none⟩) (l.length + 1) cp) (l ++ [u]) w') → Hid (But v.ownBlock.toList W w') → Hid (v.ownBlock = some g ∨ W.heap.size ≤ g) → K (a.put o.dst (.slice (some ⟨g, 0, none⟩) (l.length + 1) cp)) w') :
    if Region.wanted o (yielded ops a.tmps) = true then Oper.wp Tryz.prog o a (W.alloc (.cells #[.int .u8 c] 5)) K Q else E' := by
  obtain ⟨i0, hi, hz0, hz1, hz2⟩ := info5
  refine step_append_lies _ hgd s t 72 ho 0 5 i0 (.int .u8 0) 1 1 Tryz.underlying72 hi hz0 hz1 hz2 rfl (by decide) v l.length _ hs (World.ownsRow.alloc hown _) ⟨W.heap.size, 0, none⟩ 1 1 [.int .u8 c] hx rfl ?_ ?_ (by decide) ?_ ?_ (by omega) (W.alloc (.cells #[.int .u8 c] 5)).heap.size rfl ?_
  · intro j u hj
    match j, hj with
    | 0, hj => simp at hj; subst hj; simp [Addr.add]
  · intro u hu
    simp at hu
    subst hu
    rfl
  · unfold maxLen; omega
  · omega
  · intro g cp w' h2 h3 h4 h5
    subst hc
    refine h g cp w' (own_snoc h2) (((But.refl _ W).alloc _).grown h3 (fun k hk => by rw [hk]; simp)) ?_
    rcases h4 with e | e
    · exact .inl e
    · exact .inr (by rw [e]; simp)

theorem ne_rows {w : World} {g B T T' S S' n n' : Nat} {v v' : Value} {xs xs' : List Value} (h : w.ownsRow B T S v n xs) (h' : w.ownsRow B T' S' v' n' xs') (hT : T ≠ T') (hg : v.ownBlock = some g) : v'.ownBlock ≠ some g := by
  intro hg'
  rcases h.2 with ⟨rfl, _⟩ | ⟨g1, cap, cur, rfl, _, e1, _⟩
  · cases hg
  · rcases h'.2 with ⟨rfl, _⟩ | ⟨g2, cap2, cur2, rfl, _, e2, _⟩
    · cases hg'
    · have a1 : g1 = g := by simpa [Value.ownBlock] using hg
      have a2 : g2 = g := by simpa [Value.ownBlock] using hg'
      subst a1 a2
      rw [e1] at e2
      injection e2 with e
      injection e with _ e3 _
      exact hT e3
/-- The line has turned. -/
theorem IsD.puts {w w6 : World} {D g m cp : Nat} {s : DS} {vl vb vt : Value} {l' : List UInt8} (H : IsD w D s vl vb vt) (ho : Own 0 (.slice (some ⟨g, 0, none⟩) m cp) l' w6) (hb : But vl.ownBlock.toList w w6) (hg : vl.ownBlock = some g ∨ w.heap.size ≤ g) :
    IsD (w6.setCell ⟨D, 8, none⟩ (.slice (some ⟨g, 0, none⟩) m cp)) D { s with line := l' } (.slice (some ⟨g, 0, none⟩) m cp) vb vt ∧ Goes (ft D vl vb vt) w (ft D (.slice (some ⟨g, 0, none⟩) m cp) vb vt) (w6.setCell ⟨D, 8, none⟩ (.slice (some ⟨g, 0, none⟩) m cp)) := by
  have hD6 : w6.heap[D]? = some (.cells (cellsD s vl vb vt) 87 (0, 0)) := hb.heap H.str (fun e => by
    simp at e
    exact ne_row H.str H.line (by decide) e rfl)
  have hA := (At.mk (But.refl [D] w6) hD6).set 8 (.slice (some ⟨g, 0, none⟩) m cp)
  refine ⟨IsD.build hD6 hA rfl ho (hb.owns H.body (fun k hk e => H.sep k (by simpa using e) hk)) (hb.owns H.tr (fun k hk e => ne_rows H.line H.tr (by decide) (by simpa using e) hk)) ?_, goes_ft ?_ ?_ (fun k h => .inl h) (fun k h => .inl h)⟩
  · intro k hk hk2
    have e : g = k := by simpa [Value.ownBlock] using hk
    subst e
    rcases hg with e | e
    · exact H.sep g e hk2
    · have := (World.ownsRow.lt H.body g hk2).2
      omega
  · exact (hb.mono (fun x hx => by simp at hx; simp [ft, hx])).trans (hA.ftd _ _ _)
  · intro k hk
    have e : g = k := by simpa [Value.ownBlock] using hk
    subst e
    exact hg

theorem len_put (s : DS) (u : UInt8) : (put s u).line.length = s.line.length + 1 := by simp [put]
theorem put_ne (s : DS) (u : UInt8) : (put s u).line ≠ [] := by simp [put]

set_option maxHeartbeats 8000000 in
theorem inSize_any {w0 w : World} {D : Nat} {s : DS} {bs : List Nat} (HB : Base w0 w bs) (H : Dec w D s bs) (hl : s.line.length ≤ 3000000000) (hm0 : 0 ≤ s.most) (hm1 : s.most ≤ 9223372036854775807) (t : ByteArray) (ht : 0 < t.size) (u : UInt8) (hu : byt t 0 = (u.toNat : Int)) :
    Calls Tryz.prog 39 #[.pointer (some ⟨D, 0, none⟩), .string t] w fun ex w' => ex = .returned (.int .i64 1) ∧ ∃ bs', Dec w' D (inSize s u) bs' ∧ Goes bs w bs' w' := by
  have HHB : Hid (Base w0 w bs) := HB
  obtain ⟨vl, vb, vt, H, hbs⟩ := H
  obtain ⟨a, c, rfl, hac, hcm, _⟩ := own_form H.line
  have HBS : Hid (bs = ft D (.slice a s.line.length c) vb vt) := hbs
  have HH : Hid (IsD w D s (.slice a s.line.length c) vb vt) := H
  obtain ⟨c0, c1, c2, c3, c4, c5, c6, c7, c8, c9, c10, cf⟩ := row11 H.str
  have HOD : Hid (Own 0 (.slice a s.line.length c) s.line w.drew) := (But.refl [] w).drew.owns H.line (fun _ _ e => by cases e)
  have HSD : Hid (w.drew.heap[D]? = some (.cells (cellsD s (.slice a s.line.length c) vb vt) 87 (0, 0))) := (But.refl [] w).drew.heap H.str (fun e => by cases e)
  have hDlt : D < w.heap.size := (Array.getElem?_eq_some_iff.1 H.str).1
  have q1 : ¬ D = w.heap.size := by omega
  have q2 : ¬ w.heap.size = D := by omega
  have hby : (((t[0]'ht).toNat : Nat) : Int) = byt t 0 := byt_at t 0 ht
  rw [hu] at hby
  have e8 : w.drew.cell? ⟨D, 8, none⟩ = some (.slice a s.line.length c) := c8
  have HU : Hid (u = u) := rfl
  have hu0 : (0 : Int) ≤ (u.toNat : Int) := by omega
  have hu1 : (u.toNat : Int) < 256 := by have := u.toNat_lt; omega
  have HC : Hid ((u.toNat : Int) = (u.toNat : Int)) := rfl
  obtain ⟨x, hx⟩ : ∃ x, x = (u.toNat : Int) := ⟨_, rfl⟩
  rw [← hx] at hby hu0 hu1
  have HX : Hid (x = (u.toNat : Int)) := hx
  have HLN : Hid (s.line.length ≤ 3000000000) := hl
  have a8 : ∀ y, (w.alloc (.cells #[.int .u8 y] 5)).cell? ⟨D, 8, none⟩ = some (.slice a s.line.length c) := fun y => ((But.refl [] w).alloc _).cell c8 (fun e => by cases e)
  clear H hbs HB hx hu HC HU c0 c1 c2 c3 c4 c5 c6 c7 c9 c10
  generalize hn : s.line.length = n at *
  have HN : Hid (s.line.length = n) := hn
  clear hn
  have hnl : n ≤ 3000000000 := hl
  clear hl
  go_enter Tryz.func39, Tryz.ntmps39
  go_wp2_with fail
  go_region_law (refine step_appB rfl (.tmp 9) (.tmp 12) rfl (.slice a n c) s.line w.drew x u HX.out (by simp [Act.eval, Act.put]) HOD.out (by simp [Act.eval, Act.put]) (by have := HN.out; omega) ?_; intro g6 c6' w6 ho6 hb6 hg6; rw [HN.out]; have S6 : Hid (_ = some _) := hb6.out.heap HSD.out (fun e => ne_row HSD.out HOD.out (by decide) (by simpa using e) rfl); obtain ⟨e0, e1, e2, e3, e4, e5, e6, e7, e8, e9, e10, ef⟩ := row11 S6.out)
  all_goals
    have P := IsD.puts HH.out (l' := s.line ++ [u]) (m := n + 1) (by have := ho6.out; rw [HN.out] at this; exact this) ((But.refl _ w).drew.trans hb6.out) hg6.out
    obtain ⟨w7, hw7⟩ : ∃ w7, w7 = w6.setCell ⟨D, 8, none⟩ (.slice (some ⟨g6, 0, none⟩) (n + 1) c6') := ⟨_, rfl⟩
    rw [← hw7] at P ⊢
    clear hw7
    have HI : Hid (IsD w7 D (put s u) (.slice (some ⟨g6, 0, none⟩) (n + 1) c6') vb vt) := P.1
    have HG : Hid (Goes bs w (ft D (.slice (some ⟨g6, 0, none⟩) (n + 1) c6') vb vt) w7) := by rw [HBS.out]; exact P.2
    clear P ho6 hb6 hg6 S6 e0 e1 e2 e3 e4 e5 e6 e7 e8 e9 e10 ef HOD HSD c8 cf a8 q1 q2 hDlt
    obtain ⟨c0, c1, c2, c3, c4, c5, c6, c7, c8, c9, c10, cf⟩ := row11 HI.out.str
    clear c0 c1 c2 c3 c4 c5 c6 c7 c9 c10
    by_cases h10 : u = 10
    · have hx10 : (x == 10) = true := by rw [HX.out, h10]; rfl
      have HU : Hid (u = 10) := h10
      clear h10
      go_wp2_with fail
      refine (endSize_any (HHB.out.goes HG.out) ⟨_, _, _, HI.out, rfl⟩ (by rw [len_put, HN.out]; omega) (put_ne _ _) hm0 hm1).mono ?_
      rintro e w8 ⟨rfl, bs8, hd8, hg8⟩
      have HD8 : Hid (Dec w8 D (endSize (put s u)) bs8) := hd8
      have HG8 : Hid (Goes bs w bs8 w8) := HG.out.trans hg8
      clear hd8 hg8
      go_wp2
      go_ret
      refine ⟨rfl, bs8, ?_, HG8.out⟩
      unfold inSize
      rw [if_pos HU.out]
      exact HD8.out
    · have hx10 : (x == 10) = false := by
        rw [beq_eq_false_iff_ne]
        intro e
        have := HX.out
        exact h10 (UInt8.toNat_inj.1 (by show u.toNat = 10; omega))
      have HU : Hid (¬ u = 10) := h10
      clear h10
      by_cases h256 : n + 1 = 256
      · have hn1 : (((n : Nat) : Int) + 1 == 256) = true := by rw [beq_iff_eq]; omega
        have HN6 : Hid (n + 1 = 256) := h256
        clear h256
        go_wp2_with fail
        refine (end_any ⟨_, _, _, HI.out, rfl⟩ 100).mono ?_
        rintro e w8 ⟨rfl, bs8, hd8, hg8⟩
        have HD8 : Hid (Dec w8 D (fin (put s u) 100) bs8) := hd8
        have HG8 : Hid (Goes bs w bs8 w8) := HG.out.trans hg8
        clear hd8 hg8
        go_wp2
        go_ret
        refine ⟨rfl, bs8, ?_, HG8.out⟩
        unfold inSize
        rw [if_neg HU.out, if_pos (by rw [HN.out]; exact HN6.out)]
        exact HD8.out
      · have hn1 : (((n : Nat) : Int) + 1 == 256) = false := by rw [beq_eq_false_iff_ne]; omega
        have HN6 : Hid (¬ n + 1 = 256) := h256
        clear h256
        go_wp2
        go_ret
        refine ⟨rfl, _, ?_, HG.out⟩
        unfold inSize
        rw [if_neg HU.out, if_neg (by rw [HN.out]; exact HN6.out)]
        exact ⟨_, _, _, HI.out, rfl⟩

end Ck
end Go.Proofs.YtifhbjkgdnemjaaGreatDoor
