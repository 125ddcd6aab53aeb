import Derived.Test.YtcelekfokbdmfaaGreatDoorMgW
set_option linter.unusedVariables false
set_option linter.unusedSimpArgs false
set_option maxRecDepth 100000
namespace Go.Proofs.YtcelekfokbdmfaaGreatDoor
open Go.RowKit Go.Shelf
namespace Ms
open Oc Tg _root_.Go.Proofs.YtcelekfokbdmfaaGreatDoor.Fd _root_.Go.Proofs.YtcelekfokbdmfaaGreatDoor.Ck
structure Box2 (TR TM : Nat) (w W0 : World) (cr cm : List Value) : Prop where
  bel : Below w.heap.size w W0
  resp : Blk TR W0 w.heap.size cr
  man : Blk TM W0 (w.heap.size + 1) cm
theorem box2 (TR TM : Nat) (w : World) (cr cm : List Value) : Box2 TR TM w ((w.alloc (.cells cr.toArray TR)).alloc (.cells cm.toArray TM)) cr cm := by
  refine ⟨((Below.refl _ w).alloc (Nat.le_refl _) _).alloc (by simp) _, ?_, ?_⟩
  · exact Blk.below (heap_alloc_new w _) ((Below.refl _ _).alloc (Nat.le_refl _) _)
  · have h1 := heap_alloc_new (w.alloc (.cells cr.toArray TR)) (.cells cm.toArray TM)
    have e : (w.alloc (.cells cr.toArray TR)).heap.size = w.heap.size + 1 := by simp
    rw [e] at h1
    exact h1
def frmR (r : Rs) (m : Mn) : Bool := anyI r.fs r.st || misf r m
set_option maxHeartbeats 4000000 in
theorem rframed_any (r : Rs) (m : Mn) (hS : sumF r.fs ≤ 1048576) (af sa ta : Option Addr) (cf cs ct : Nat) (w : World) (hf : RdF (.slice af r.fs.length cf) r.fs w) :
    Calls Tryz.prog 38 #[.agg #[.int .i64 r.st, .string (str r.rs), .slice af r.fs.length cf, .string (str r.bd)], .agg #[.string (str m.me), .bool m.cl, .bool m.old, .bool m.ch, .slice sa m.sz.length cs, .slice ta m.tr.length ct]] w fun e w' => e = .returned (.bool (frmR r m)) ∧ Below w.heap.size w w' := by
  have HF : Hid (RdF (.slice af r.fs.length cf) r.fs w) := hf
  have hEach : Each maxLen r.fs := ((each_sumF r.fs).mono hS).mono (by unfold maxLen; omega)
  have HEa : Hid (Each maxLen r.fs) := hEach
  have hlen := len_sumF r.fs
  have HEm : Hid (∀ W, Calls _ _ _ W _) := fun W => rEmpty_any r.st W
  have HM : Hid (r.bd = [] ∧ (str r.bd).toList.isEmpty = true ∨ r.bd ≠ [] ∧ (str r.bd).toList.isEmpty = false) := by
    by_cases h : r.bd = []
    · exact .inl ⟨h, empty_of (by rw [h]; rfl)⟩
    · exact .inr ⟨h, nonempty_of (by rw [str_size]; exact fun e => h (List.length_eq_zero_iff.1 e))⟩
  have HQ : Hid (frmR r m = (anyI r.fs r.st || ((nvr r.st && decide (r.bd ≠ [])) || ((m.ch && (m.old || nvr r.st)) || (!m.ch && (decide (0 < m.sz.length) || decide (0 < m.tr.length))))))) := rfl
  generalize frmR r m = R at *
  generalize nvr r.st = nv at *
  generalize m.ch = ch at *
  generalize m.old = od at *
  generalize str r.bd = BD at *
  obtain ⟨be, hbe, hbq⟩ : ∃ be, decide (r.bd ≠ []) = be ∧ BD.toList.isEmpty = !be := by
    rcases HM.out with ⟨h, h2⟩ | ⟨h, h2⟩
    · exact ⟨false, by simp [h], h2⟩
    · exact ⟨true, by simp [h], h2⟩
  rw [hbe] at HQ
  generalize str r.rs = RS at *
  generalize str m.me = ME at *
  have hB := box2 38 41 w [.int .i64 r.st, .string RS, .slice af r.fs.length cf, .string BD] [.string ME, .bool m.cl, .bool od, .bool ch, .slice sa m.sz.length cs, .slice ta m.tr.length ct]
  obtain ⟨W0, hW0⟩ : ∃ W0, W0 = (w.alloc (.cells #[.int .i64 r.st, .string RS, .slice af r.fs.length cf, .string BD] 38)).alloc (.cells #[.string ME, .bool m.cl, .bool od, .bool ch, .slice sa m.sz.length cs, .slice ta m.tr.length ct] 41) := ⟨_, rfl⟩
  have HB : Hid (Box2 38 41 w W0 [.int .i64 r.st, .string RS, .slice af r.fs.length cf, .string BD] [.string ME, .bool m.cl, .bool od, .bool ch, .slice sa m.sz.length cs, .slice ta m.tr.length ct]) := (by rw [hW0]; exact hB : Box2 _ _ _ _ _ _)
  have HW0 : Hid (W0 = _) := hW0
  have hfl : r.fs.length ≤ 1048576 := by omega
  clear hB hW0 hbe HM hf hEach hS
  generalize hsl : m.sz.length = sl at *
  generalize htl : m.tr.length = tl at *
  clear hsl htl
  go_enter Tryz.func38, Tryz.ntmps38
  go_wp2
  rw [← HW0.out]
  go_loopw [10] (fun i wr => ∃ k : Nat, k ≤ r.fs.length ∧ i = .int .i64 (k : Int) ∧ Hid (∀ j, j < k → frI (nth r.fs j).1 r.st = false) ∧ Hid (Below W0.heap.size W0 wr)) (fun i _ => r.fs.length - (intOf i).toNat)
  case atStart => exact ⟨0, Nat.zero_le _, rfl, (fun j hj => by omega : ∀ j, j < 0 → _), Below.refl _ _⟩
  case round =>
    obtain ⟨k, hk, rfl, hall, hbl⟩ := hrel
    have HBw : Hid (Below w.heap.size w wr) := HB.out.bel.trans (hbl.out.mono HB.out.bel.size)
    by_cases hlt : k < r.fs.length
    · obtain ⟨a', c', e', hcs⟩ := HF.out.below HBw.out
      injection e' with e1 _ e2
      subst e1 e2
      rcases hcs with h | ⟨g, o, rfl, hlc, hcell⟩
      · rw [h] at hlt; simp at hlt
      obtain ⟨p0, p1⟩ := hcell k hlt
      clear hcell
      have hxl := (HEa.out.at k hlt).1
      have H1 : Hid (∀ W, Calls Tryz.prog 68 #[.string (str (nth r.fs k).1), .string ⟨#[67, 111, 110, 116, 101, 110, 116, 45, 76, 101, 110, 103, 116, 104]⟩] W fun e w' => e = .returned (.bool (decide (lower (nth r.fs k).1 = lower nCL))) ∧ Below (World.heap W).size W w') := fun W => Alike_l _ nCL hxl (by decide) W
      have H2 : Hid (∀ W, Calls Tryz.prog 68 #[.string (str (nth r.fs k).1), .string ⟨#[84, 114, 97, 110, 115, 102, 101, 114, 45, 69, 110, 99, 111, 100, 105, 110, 103]⟩] W fun e w' => e = .returned (.bool (decide (lower (nth r.fs k).1 = lower nTE))) ∧ Below (World.heap W).size W w') := fun W => Alike_l _ nTE hxl (by decide) W
      have H3 : Hid (∀ W, Calls Tryz.prog 68 #[.string (str (nth r.fs k).1), .string ⟨#[67, 111, 110, 110, 101, 99, 116, 105, 111, 110]⟩] W fun e w' => e = .returned (.bool (decide (lower (nth r.fs k).1 = lower nCn))) ∧ Below (World.heap W).size W w') := fun W => Alike_l _ nCn hxl (by decide) W
      have HT : frI (nth r.fs k).1 r.st = true → Hid (R = true) := fun h => (by rw [HQ.out, any_at hlt h]; rfl : _ = _)
      have HN : frI (nth r.fs k).1 r.st = false → Hid (∀ j, j < k + 1 → frI (nth r.fs j).1 r.st = false) := fun h j hj => by
        by_cases hjk : j = k
        · subst hjk; exact h
        · exact hall.out j (by omega)
      have HX : Hid (frI (nth r.fs k).1 r.st = (decide (lower (nth r.fs k).1 = lower nCL) || (decide (lower (nth r.fs k).1 = lower nTE) || (decide (lower (nth r.fs k).1 = lower nCn) && r.st != 101)))) := rfl
      generalize str (nth r.fs k).1 = X at p0 H1 H2 H3
      generalize str (nth r.fs k).2 = Y at p1
      generalize decide (lower (nth r.fs k).1 = lower nCL) = b1 at H1 HX
      generalize decide (lower (nth r.fs k).1 = lower nTE) = b2 at H2 HX
      generalize decide (lower (nth r.fs k).1 = lower nCn) = b3 at H3 HX
      generalize frI (nth r.fs k).1 r.st = fr at HT HN HX
      clear hxl
      obtain ⟨w1, hw1⟩ : ∃ w1, w1 = wr.alloc (.cells #[.string X, .string Y] 80) := ⟨_, rfl⟩
      have hb1 : Below W0.heap.size W0 w1 := by rw [hw1]; exact hbl.out.alloc hbl.out.size _
      have HN1 : Hid (Blk 80 w1 wr.heap.size [.string X, .string Y]) := (by rw [hw1]; exact heap_alloc_new wr _ : Blk _ _ _ _)
      have HB1 : Hid (Below W0.heap.size W0 w1) := hb1
      have HW1 : Hid (w1 = _) := hw1
      clear hb1 hw1
      go_wp2_with fail
      rw [← HW1.out]
      refine (H1.out _).mono ?_
      rintro e w2 ⟨rfl, hb2⟩
      have HB2 : Hid (Below W0.heap.size W0 w2) := bel_trans HB1.out hb2
      have HN2 : Hid (Blk 80 w2 wr.heap.size [.string X, .string Y]) := HN1.out.below hb2
      clear hb2 HW1 HN1 HB1
      have HY : Hid (∀ W, Below W0.heap.size W0 W → Below w.heap.size w W) := fun W h => HB.out.bel.trans (h.mono HB.out.bel.size)
      cases b1 with
      | true =>
        have HT2 := HT (by rw [HX.out]; rfl)
        go_wp2
        go_ret
        exact ⟨by rw [HT2.out]; rfl, HY.out _ HB2.out⟩
      | false =>
      have x0 : w2.cell? ⟨wr.heap.size, 0, none⟩ = some (.string X) := HN2.out.cell 0 rfl
      go_wp2_with fail
      refine (H2.out _).mono ?_
      rintro e w3 ⟨rfl, hb3⟩
      have HB3 : Hid (Below W0.heap.size W0 w3) := bel_trans HB2.out hb3
      have HN3 : Hid (Blk 80 w3 wr.heap.size [.string X, .string Y]) := HN2.out.below hb3
      clear hb3 HN2 HB2 x0
      cases b2 with
      | true =>
        have HT2 := HT (by rw [HX.out]; rfl)
        go_wp2
        go_ret
        exact ⟨by rw [HT2.out]; rfl, HY.out _ HB3.out⟩
      | false =>
      have x0 : w3.cell? ⟨wr.heap.size, 0, none⟩ = some (.string X) := HN3.out.cell 0 rfl
      go_wp2_with fail
      refine (H3.out _).mono ?_
      rintro e w4 ⟨rfl, hb4⟩
      have HB4 : Hid (Below W0.heap.size W0 w4) := bel_trans HB3.out hb4
      clear hb4 HN3 HB3 x0
      have r0 : w4.cell? ⟨w.heap.size, 0, none⟩ = some (.int .i64 r.st) := (HB.out.resp.below HB4.out).cell 0 rfl
      by_cases h101 : b3 = true ∧ r.st ≠ 101
      · obtain ⟨rfl, h1⟩ := h101
        have h1' : (r.st != 101) = true := by simp [h1]
        have HT2 := HT (by rw [HX.out, h1']; rfl)
        clear h1
        go_wp2
        go_ret
        exact ⟨by rw [HT2.out]; rfl, HY.out _ HB4.out⟩
      · have HN2 := HN (by
          rw [HX.out]
          cases b3 with
          | false => rfl
          | true =>
            have : r.st = 101 := Classical.byContradiction fun h => h101 ⟨rfl, h⟩
            rw [this]
            rfl)
        cases b3 with
        | false =>
          clear h101
          go_wp2
          go_roundw
          case rel => exact ⟨k + 1, by omega, by go_num, HN2, HB4⟩
          case measure => simp [intOf]; omega
        | true =>
          have h1 : r.st = 101 := Classical.byContradiction fun h => h101 ⟨rfl, h⟩
          have h1' : (r.st != 101) = false := by rw [h1]; rfl
          clear h101 h1
          go_wp2
          go_roundw
          case rel => exact ⟨k + 1, by omega, by go_num, HN2, HB4⟩
          case measure => simp [intOf]; omega
    · have HNo : Hid (anyI r.fs r.st = false) := any_none (fun j hj => hall.out j (by omega))
      have HQ2 : Hid (R = ((nv && be) || ((ch && (od || nv)) || (!ch && (decide (0 < sl) || decide (0 < tl)))))) := (by rw [HQ.out, HNo.out]; rfl : _ = _)
      clear HQ HNo
      have r0 : wr.cell? ⟨w.heap.size, 0, none⟩ = some (.int .i64 r.st) := (HB.out.resp.below hbl.out).cell 0 rfl
      have r3 : wr.cell? ⟨w.heap.size, 3, none⟩ = some (.string BD) := (HB.out.resp.below hbl.out).cell 3 rfl
      have m2 : wr.cell? ⟨w.heap.size + 1, 2, none⟩ = some (.bool od) := (HB.out.man.below hbl.out).cell 2 rfl
      have m3 : wr.cell? ⟨w.heap.size + 1, 3, none⟩ = some (.bool ch) := (HB.out.man.below hbl.out).cell 3 rfl
      have m4 : wr.cell? ⟨w.heap.size + 1, 4, none⟩ = some (.slice sa sl cs) := (HB.out.man.below hbl.out).cell 4 rfl
      have m5 : wr.cell? ⟨w.heap.size + 1, 5, none⟩ = some (.slice ta tl ct) := (HB.out.man.below hbl.out).cell 5 rfl
      cases be <;> cases nv <;> cases ch <;> cases od
      · by_cases hs : 0 < sl
        · have hs' : (0 : Int) < (sl : Int) := by omega
          rw [decide_eq_true hs] at HQ2
          go_wp2
          go_ret
          exact ⟨by rw [HQ2.out]; rfl, HBw.out⟩
        · have hs' : ¬ (0 : Int) < (sl : Int) := by omega
          rw [decide_eq_false hs] at HQ2
          go_wp2
          go_ret
          exact ⟨by rw [HQ2.out]; rfl, HBw.out⟩
      · by_cases hs : 0 < sl
        · have hs' : (0 : Int) < (sl : Int) := by omega
          rw [decide_eq_true hs] at HQ2
          go_wp2
          go_ret
          exact ⟨by rw [HQ2.out]; rfl, HBw.out⟩
        · have hs' : ¬ (0 : Int) < (sl : Int) := by omega
          rw [decide_eq_false hs] at HQ2
          go_wp2
          go_ret
          exact ⟨by rw [HQ2.out]; rfl, HBw.out⟩
      · go_wp2_with fail
        refine (HEm.out _).mono ?_
        rintro e w2 ⟨rfl, hw2⟩
        rw [hw2]
        clear hw2
        go_wp2
        go_ret
        exact ⟨by rw [HQ2.out]; rfl, HBw.out⟩
      · go_wp2
        go_ret
        exact ⟨by rw [HQ2.out]; rfl, HBw.out⟩
      · by_cases hs : 0 < sl
        · have hs' : (0 : Int) < (sl : Int) := by omega
          rw [decide_eq_true hs] at HQ2
          go_wp2
          go_ret
          exact ⟨by rw [HQ2.out]; rfl, HBw.out⟩
        · have hs' : ¬ (0 : Int) < (sl : Int) := by omega
          rw [decide_eq_false hs] at HQ2
          go_wp2
          go_ret
          exact ⟨by rw [HQ2.out]; rfl, HBw.out⟩
      · by_cases hs : 0 < sl
        · have hs' : (0 : Int) < (sl : Int) := by omega
          rw [decide_eq_true hs] at HQ2
          go_wp2
          go_ret
          exact ⟨by rw [HQ2.out]; rfl, HBw.out⟩
        · have hs' : ¬ (0 : Int) < (sl : Int) := by omega
          rw [decide_eq_false hs] at HQ2
          go_wp2
          go_ret
          exact ⟨by rw [HQ2.out]; rfl, HBw.out⟩
      · go_wp2_with fail
        refine (HEm.out _).mono ?_
        rintro e w2 ⟨rfl, hw2⟩
        rw [hw2]
        clear hw2
        go_wp2
        go_ret
        exact ⟨by rw [HQ2.out]; rfl, HBw.out⟩
      · go_wp2
        go_ret
        exact ⟨by rw [HQ2.out]; rfl, HBw.out⟩
      · go_wp2_with fail
        refine (HEm.out _).mono ?_
        rintro e w2 ⟨rfl, hw2⟩
        rw [hw2]
        clear hw2
        by_cases hs : 0 < sl
        · have hs' : (0 : Int) < (sl : Int) := by omega
          rw [decide_eq_true hs] at HQ2
          go_wp2
          go_ret
          exact ⟨by rw [HQ2.out]; rfl, HBw.out⟩
        · have hs' : ¬ (0 : Int) < (sl : Int) := by omega
          rw [decide_eq_false hs] at HQ2
          go_wp2
          go_ret
          exact ⟨by rw [HQ2.out]; rfl, HBw.out⟩
      · go_wp2_with fail
        refine (HEm.out _).mono ?_
        rintro e w2 ⟨rfl, hw2⟩
        rw [hw2]
        clear hw2
        by_cases hs : 0 < sl
        · have hs' : (0 : Int) < (sl : Int) := by omega
          rw [decide_eq_true hs] at HQ2
          go_wp2
          go_ret
          exact ⟨by rw [HQ2.out]; rfl, HBw.out⟩
        · have hs' : ¬ (0 : Int) < (sl : Int) := by omega
          rw [decide_eq_false hs] at HQ2
          go_wp2
          go_ret
          exact ⟨by rw [HQ2.out]; rfl, HBw.out⟩
      · go_wp2_with fail
        refine (HEm.out _).mono ?_
        rintro e w2 ⟨rfl, hw2⟩
        rw [hw2]
        clear hw2
        go_wp2_with fail
        refine (HEm.out _).mono ?_
        rintro e w2 ⟨rfl, hw2⟩
        rw [hw2]
        clear hw2
        go_wp2
        go_ret
        exact ⟨by rw [HQ2.out]; rfl, HBw.out⟩
      · go_wp2_with fail
        refine (HEm.out _).mono ?_
        rintro e w2 ⟨rfl, hw2⟩
        rw [hw2]
        clear hw2
        go_wp2
        go_ret
        exact ⟨by rw [HQ2.out]; rfl, HBw.out⟩
      · go_wp2_with fail
        refine (HEm.out _).mono ?_
        rintro e w2 ⟨rfl, hw2⟩
        rw [hw2]
        clear hw2
        go_wp2
        go_ret
        exact ⟨by rw [HQ2.out]; rfl, HBw.out⟩
      · go_wp2_with fail
        refine (HEm.out _).mono ?_
        rintro e w2 ⟨rfl, hw2⟩
        rw [hw2]
        clear hw2
        go_wp2
        go_ret
        exact ⟨by rw [HQ2.out]; rfl, HBw.out⟩
      · go_wp2_with fail
        refine (HEm.out _).mono ?_
        rintro e w2 ⟨rfl, hw2⟩
        rw [hw2]
        clear hw2
        go_wp2
        go_ret
        exact ⟨by rw [HQ2.out]; rfl, HBw.out⟩
      · go_wp2_with fail
        refine (HEm.out _).mono ?_
        rintro e w2 ⟨rfl, hw2⟩
        rw [hw2]
        clear hw2
        go_wp2
        go_ret
        exact ⟨by rw [HQ2.out]; rfl, HBw.out⟩
end Ms
end Go.Proofs.YtcelekfokbdmfaaGreatDoor
