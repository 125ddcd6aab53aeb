/-
  chunk: endSize, inSize, behindChunk, behindReturn.
-/
import Derived.Test.YtifhbjkgdnemjaaGreatDoorCkC
import Derived.Deep.AppendLies
import Derived.Deep.RegionHeld3
set_option linter.unusedVariables false
set_option linter.unusedSimpArgs false
set_option maxRecDepth 100000
namespace Go.Proofs.YtifhbjkgdnemjaaGreatDoor
open Go.RowKit Go.Shelf Go.Lib
namespace Ck
open Oc Tg _root_.Go.Proofs.YtifhbjkgdnemjaaGreatDoor.Fd

/-- The ground that lies below all that a decoder has. -/
structure Base (w0 w : World) (bs : List Nat) : Prop where
  env : Env w0
  bel : Below w0.heap.size w0 w
  new : ∀ x, x ∈ bs → w0.heap.size ≤ x
theorem Base.goes {w0 w w' : World} {bs cs : List Nat} (h : Base w0 w bs) (g : Goes bs w cs w') : Base w0 w' cs := ⟨h.env, g.bel h.new h.bel, g.new h.bel.size h.new⟩
theorem Base.at {w0 w : World} {bs : List Nat} (h : Base w0 w bs) : Env w := h.env.below h.bel
theorem Base.below {w0 w w' : World} {bs : List Nat} (h : Base w0 w bs) (b : Below w.heap.size w w') : Base w0 w' bs := h.goes (Goes.below b)

theorem said_le (s : DS) : (said s).length ≤ s.line.length := by
  unfold said Lib.trimSuffix
  split
  · simp
  · exact Nat.le_refl _

theorem Dec.cells {w : World} {D : Nat} {s : DS} {bs : List Nat} (h : Dec w D s bs) : ∃ vl vb vt, w.cell? ⟨D, 0, none⟩ = some (fnV s.mode) ∧ w.cell? ⟨D, 1, none⟩ = some (.bool s.done) ∧ w.cell? ⟨D, 2, none⟩ = some (.int .i64 s.err) ∧ w.cell? ⟨D, 3, none⟩ = some (.int .i64 s.most) ∧ w.cell? ⟨D, 4, none⟩ = some (.int .i64 s.room) ∧ w.cell? ⟨D, 5, none⟩ = some (.int .i64 s.fields) ∧ w.cell? ⟨D, 6, none⟩ = some (.int .i64 s.left) ∧ w.cell? ⟨D, 7, none⟩ = some (.int .i64 s.total) ∧ w.cell? ⟨D, 8, none⟩ = some vl ∧ w.cell? ⟨D, 9, none⟩ = some vb ∧ w.cell? ⟨D, 10, none⟩ = some vt ∧ ∀ i, w.frozen? ⟨D, i, none⟩ = false := by
  obtain ⟨vl, vb, vt, H, _⟩ := h
  exact ⟨vl, vb, vt, row11 H.str⟩

set_option maxHeartbeats 4000000 in
theorem endSize_any {w0 w : World} {D : Nat} {s : DS} {bs : List Nat} (HB : Base w0 w bs) (H : Dec w D s bs) (hl : s.line.length ≤ 4000000000) (hne : s.line ≠ []) (hm0 : 0 ≤ s.most) (hm1 : s.most ≤ 9223372036854775807) :
    Calls Tryz.prog 52 #[.pointer (some ⟨D, 0, none⟩)] w fun ex w' => ex = .returned (.tuple #[]) ∧ ∃ bs', Dec w' D (endSize s) bs' ∧ Goes bs w bs' w' := by
  have HHB : Hid (Base w0 w bs) := HB
  have HT : Hid (Calls Tryz.prog 70 #[.pointer (some ⟨D, 0, none⟩)] w fun ex w' => ex = .returned (.tuple #[.string (str (said s)), .bool (right s)]) ∧ ∃ bs', Dec w' D (bare s) bs' ∧ Goes bs w bs' w') := takeLine_any H hl hne
  have hq := sizeR_bd (said s)
  have HP : Hid (∀ w, Tab w → Calls Tryz.prog 71 #[.string (str (said s))] w fun e w' => ∃ v, e = .returned (.tuple #[.int .i64 (sizeR (said s)).1, v, .int .i64 (sizeR (said s)).2.2]) ∧ OwnP 25 w.heap.size v (sizeR (said s)).2.1 w' ∧ Below w.heap.size w w') := fun w t => by
    have h := ParseSize_any (str (said s)) (by rw [str_size]; have := said_le s; omega) w t
    rw [str_list] at h
    exact h
  have HE : Hid (endSize s = if right s = false then fin (bare s) 100 else if (sizeR (said s)).2.2 ≠ 0 then fin (bare s) (sizeR (said s)).2.2 else if s.most < (sizeR (said s)).1 then fin (bare s) 102 else if (sizeR (said s)).1 = 0 then { bare s with mode := 4 } else { bare s with most := s.most - (sizeR (said s)).1, left := (sizeR (said s)).1, mode := 1 }) := rfl
  generalize sizeR (said s) = q at *
  obtain ⟨q1, q2, q3⟩ := q
  simp only at hq HP HE
  generalize str (said s) = L at *
  generalize right s = r at *
  obtain ⟨hq0, hq1⟩ := hq
  clear H HB hl hne
  go_enter Tryz.func52, Tryz.ntmps52
  go_wp2_with fail
  refine HT.out.mono ?_
  rintro e w1 ⟨rfl, bs1, hd1, hg1⟩
  have HD1 : Hid (Dec w1 D (bare s) bs1) := hd1
  have HG1 : Hid (Goes bs w bs1 w1) := hg1
  clear hd1 hg1
  go_wp2_with fail
  refine (HP.out _ (HHB.out.goes HG1.out).at.1).mono ?_
  rintro e w2 ⟨v, rfl, _, hb2⟩
  have HD2 : Hid (Dec w2 D (bare s) bs1) := HD1.out.below hb2
  have HG2 : Hid (Goes bs w bs1 w2) := HG1.out.trans (Goes.below hb2)
  clear hb2 HT HP
  have HEnd : Hid (∀ e : Int, Calls Tryz.prog 53 #[.pointer (some ⟨D, 0, none⟩), .int .i64 e] w2 fun ex w' => ex = .returned (.tuple #[]) ∧ ∃ bs', Dec w' D (fin (bare s) e) bs' ∧ Goes bs1 w2 bs' w') := fun e => end_any HD2.out e
  cases r with
  | false =>
    go_wp2_with fail
    refine (HEnd.out 100).mono ?_
    rintro e w3 ⟨rfl, bs3, hd3, hg3⟩
    go_wp2
    go_end0
    rw [HE.out, if_pos (by simp)]
    exact ⟨rfl, bs3, hd3, HG2.out.trans hg3⟩
  | true =>
    by_cases h3 : q3 = 0
    · subst h3
      obtain ⟨vl, vb, vt, c0, c1, c2, c3, c4, c5, c6, c7, c8, c9, c10, cf⟩ := HD2.out.cells
      by_cases h4 : s.most < q1
      · have HX : Hid (s.most < q1) := h4
        have h4' : (s.most < q1) = True := eq_true h4
        have c3' : w2.cell? ⟨D, 3, none⟩ = some (.int .i64 s.most) := c3
        clear c0 c1 c2 c3 c4 c5 c6 c7 c8 c9 c10
        go_wp2_with fail
        refine (HEnd.out 102).mono ?_
        rintro e w3 ⟨rfl, bs3, hd3, hg3⟩
        go_wp2
        go_end0
        rw [HE.out, if_neg (by simp), if_neg (by simp), if_pos HX.out]
        exact ⟨rfl, bs3, hd3, HG2.out.trans hg3⟩
      · have HX : Hid (¬ s.most < q1) := h4
        have c3' : w2.cell? ⟨D, 3, none⟩ = some (.int .i64 s.most) := c3
        by_cases h5 : q1 = 0
        · subst h5
          obtain ⟨xl, xb, xt, HI, hbs⟩ := HD2.out
          have HII : Hid (IsD w2 D (bare s) xl xb xt) := HI
          have HBS : Hid (bs1 = ft D xl xb xt) := hbs
          clear HI hbs
          clear c1 c2 c3 c4 c5 c7 c8 c9 c10
          go_wp2
          go_end0
          have hA := HII.out.at.set 0 (fnV 4)
          rw [HE.out, if_neg (by simp), if_neg (by simp), if_neg (by have := HX.out; omega), if_pos (by simp)]
          refine ⟨rfl, _, ⟨xl, xb, xt, IsD.build HII.out.str hA rfl HII.out.line HII.out.body HII.out.tr HII.out.sep, rfl⟩, ?_⟩
          rw [HBS.out] at HG2
          exact HG2.out.trans (goes_ft (hA.ftd _ _ _) (fun g h => .inl h) (fun g h => .inl h) (fun g h => .inl h))
        · obtain ⟨xl, xb, xt, HI, hbs⟩ := HD2.out
          have HII : Hid (IsD w2 D (bare s) xl xb xt) := HI
          have HBS : Hid (bs1 = ft D xl xb xt) := hbs
          clear HI hbs
          have HX5 : Hid (¬ q1 = 0) := h5
          clear c1 c2 c3 c4 c5 c7 c8 c9 c10
          have h5' : (q1 == 0) = false := by simp [h5]
          go_wp2
          go_end0
          have hA := ((HII.out.at.set 3 (.int .i64 (s.most - q1))).set 6 (.int .i64 q1)).set 0 (fnV 1)
          rw [HE.out, if_neg (by simp), if_neg (by simp), if_neg (by have := HX.out; omega), if_neg HX5.out]
          refine ⟨rfl, _, ⟨xl, xb, xt, IsD.build HII.out.str hA rfl HII.out.line HII.out.body HII.out.tr HII.out.sep, rfl⟩, ?_⟩
          rw [HBS.out] at HG2
          exact HG2.out.trans (goes_ft (hA.ftd _ _ _) (fun g h => .inl h) (fun g h => .inl h) (fun g h => .inl h))
    · have HX : Hid (q3 ≠ 0) := h3
      have h3' : (q3 != 0) = true := by simp [h3]
      clear h3
      go_wp2_with fail
      refine (HEnd.out q3).mono ?_
      rintro e w3 ⟨rfl, bs3, hd3, hg3⟩
      go_wp2
      go_end0
      rw [HE.out, if_neg (by simp), if_pos HX.out]
      exact ⟨rfl, bs3, hd3, HG2.out.trans hg3⟩

set_option maxHeartbeats 1000000 in
theorem behindChunk_any {w : World} {D : Nat} {s : DS} {bs : List Nat} (H : Dec w D s bs) (t : ByteArray) (ht : 0 < t.size) (u : UInt8) (hu : byt t 0 = (u.toNat : Int)) :
    Calls Tryz.prog 92 #[.pointer (some ⟨D, 0, none⟩), .string t] w fun ex w' => ex = .returned (.int .i64 1) ∧ ∃ bs', Dec w' D (behindChunk s u) bs' ∧ Goes bs w bs' w' := by
  obtain ⟨vl, vb, vt, H, rfl⟩ := H
  have HH : Hid (IsD w D s vl vb vt) := H
  obtain ⟨c0, c1, c2, c3, c4, c5, c6, c7, c8, c9, c10, cf⟩ := row11 H.str
  clear H
  have hby : (((t[0]'ht).toNat : Nat) : Int) = byt t 0 := byt_at t 0 ht
  rw [hu] at hby
  have hA := HH.out.at.set 0 (fnV 3)
  have HI : Hid (IsD (w.setCell ⟨D, 0, none⟩ (fnV 3)) D { s with mode := 3 } vl vb vt) := IsD.build HH.out.str hA rfl HH.out.line HH.out.body HH.out.tr HH.out.sep
  have HG : Hid (Goes (ft D vl vb vt) w (ft D vl vb vt) (w.setCell ⟨D, 0, none⟩ (fnV 3))) := goes_ft (hA.ftd _ _ _) (fun g h => .inl h) (fun g h => .inl h) (fun g h => .inl h)
  have HEnd : Hid (∀ e : Int, Calls Tryz.prog 53 #[.pointer (some ⟨D, 0, none⟩), .int .i64 e] (w.setCell ⟨D, 0, none⟩ (.func (.func 107) #[] #[])) fun ex w' => ex = .returned (.tuple #[]) ∧ ∃ bs', Dec w' D (fin { s with mode := 3 } e) bs' ∧ Goes (ft D vl vb vt) (w.setCell ⟨D, 0, none⟩ (fnV 3)) bs' w') := fun e => end_any ⟨vl, vb, vt, HI.out, rfl⟩ e
  clear hA
  by_cases h : u = 13
  · have hb : ((u.toNat : Int) != 13) = false := by subst h; rfl
    have HU : Hid (u = 13) := h
    clear h hu
    generalize (u.toNat : Int) = x at *
    go_enter Tryz.func92, Tryz.ntmps92
    go_wp2
    go_ret
    unfold behindChunk
    rw [if_pos HU.out]
    exact ⟨rfl, _, ⟨vl, vb, vt, HI.out, rfl⟩, HG.out⟩
  · have hb : ((u.toNat : Int) != 13) = true := by
      simp only [bne_iff_ne, ne_eq]
      intro e
      exact h (UInt8.toNat_inj.1 (by show u.toNat = 13; omega))
    have HU : Hid (¬ u = 13) := h
    clear h hu
    generalize (u.toNat : Int) = x at *
    go_enter Tryz.func92, Tryz.ntmps92
    go_wp2_with fail
    refine (HEnd.out 100).mono ?_
    rintro e w3 ⟨rfl, bs3, hd3, hg3⟩
    go_wp2
    go_ret
    unfold behindChunk
    rw [if_neg HU.out]
    exact ⟨rfl, bs3, hd3, HG.out.trans hg3⟩

set_option maxHeartbeats 1000000 in
theorem behindReturn_any {w : World} {D : Nat} {s : DS} {bs : List Nat} (H : Dec w D s bs) (t : ByteArray) (ht : 0 < t.size) (u : UInt8) (hu : byt t 0 = (u.toNat : Int)) :
    Calls Tryz.prog 107 #[.pointer (some ⟨D, 0, none⟩), .string t] w fun ex w' => ex = .returned (.int .i64 1) ∧ ∃ bs', Dec w' D (behindReturn s u) bs' ∧ Goes bs w bs' w' := by
  obtain ⟨vl, vb, vt, H, rfl⟩ := H
  have HH : Hid (IsD w D s vl vb vt) := H
  obtain ⟨c0, c1, c2, c3, c4, c5, c6, c7, c8, c9, c10, cf⟩ := row11 H.str
  clear H
  have hby : (((t[0]'ht).toNat : Nat) : Int) = byt t 0 := byt_at t 0 ht
  rw [hu] at hby
  have hA := HH.out.at.set 0 (fnV 0)
  have HI : Hid (IsD (w.setCell ⟨D, 0, none⟩ (fnV 0)) D { s with mode := 0 } vl vb vt) := IsD.build HH.out.str hA rfl HH.out.line HH.out.body HH.out.tr HH.out.sep
  have HG : Hid (Goes (ft D vl vb vt) w (ft D vl vb vt) (w.setCell ⟨D, 0, none⟩ (fnV 0))) := goes_ft (hA.ftd _ _ _) (fun g h => .inl h) (fun g h => .inl h) (fun g h => .inl h)
  have HEnd : Hid (∀ e : Int, Calls Tryz.prog 53 #[.pointer (some ⟨D, 0, none⟩), .int .i64 e] (w.setCell ⟨D, 0, none⟩ (.func (.func 39) #[] #[])) fun ex w' => ex = .returned (.tuple #[]) ∧ ∃ bs', Dec w' D (fin { s with mode := 0 } e) bs' ∧ Goes (ft D vl vb vt) (w.setCell ⟨D, 0, none⟩ (fnV 0)) bs' w') := fun e => end_any ⟨vl, vb, vt, HI.out, rfl⟩ e
  clear hA
  by_cases h : u = 10
  · have hb : ((u.toNat : Int) != 10) = false := by subst h; rfl
    have HU : Hid (u = 10) := h
    clear h hu
    generalize (u.toNat : Int) = x at *
    go_enter Tryz.func107, Tryz.ntmps107
    go_wp2
    go_ret
    unfold behindReturn
    rw [if_pos HU.out]
    exact ⟨rfl, _, ⟨vl, vb, vt, HI.out, rfl⟩, HG.out⟩
  · have hb : ((u.toNat : Int) != 10) = true := by
      simp only [bne_iff_ne, ne_eq]
      intro e
      exact h (UInt8.toNat_inj.1 (by show u.toNat = 10; omega))
    have HU : Hid (¬ u = 10) := h
    clear h hu
    generalize (u.toNat : Int) = x at *
    go_enter Tryz.func107, Tryz.ntmps107
    go_wp2_with fail
    refine (HEnd.out 100).mono ?_
    rintro e w3 ⟨rfl, bs3, hd3, hg3⟩
    go_wp2
    go_ret
    unfold behindReturn
    rw [if_neg HU.out]
    exact ⟨rfl, bs3, hd3, HG.out.trans hg3⟩

end Ck
end Go.Proofs.YtifhbjkgdnemjaaGreatDoor
