/-
  span: the method pieces.
-/
import Derived.Test.YthdfgepnadgkjaaGreatDoorPcE
set_option linter.unusedVariables false
set_option linter.unusedSimpArgs false
namespace Go.Proofs.YthdfgepnadgkjaaGreatDoor
open Go.RowKit Go.Shelf
namespace Sn
open Oc Tg Ac

def atOf (w : World) (g : Nat) : Nat := match w.cell? ⟨g, 1, none⟩ with | some (.int _ z) => z.toNat | _ => 0
theorem atOf_RB {w : World} {g a : Nat} {s : ByteArray} (h : RB w g s a) : atOf w g = a := by unfold atOf; rw [h.c1]; simp
theorem pieceP_two (r : List UInt8) (h : (pieceP r).2.1 = 0) : 2 ≤ (pieceP r).2.2 := by
  unfold pieceP at h ⊢
  generalize lineP r ctH = L1 at *
  generalize lineP (r.drop L1.2.2) crH = L2 at *
  generalize takeP (r.drop (L1.2.2 + L2.2.2)) 93 [[13, 10]] = K at *
  generalize tolR L2.1 = X at *
  by_cases c1 : L1.2.1 ≠ 0
  · rw [if_pos c1] at h; exact absurd h c1
  rw [if_neg c1] at h ⊢
  by_cases c2 : L2.2.1 ≠ 0
  · rw [if_pos c2] at h; exact absurd h c2
  rw [if_neg c2] at h ⊢
  by_cases c3 : X.1 = (0, 0)
  · rw [if_pos c3] at h; simp at h
  rw [if_neg c3] at h ⊢
  by_cases c4 : K.2.1 ≠ 0
  · rw [if_pos c4] at h; exact absurd h c4
  rw [if_neg c4] at h ⊢
  split at h
  · simp at h
  · rename_i hn
    rw [if_neg hn]
    dsimp only
    omega
theorem RB.belB {w w' : World} {g a B : Nat} {s : ByteArray} (h : RB w g s a) (b : Below B w w') (hg : g < B) : RB w' g s a := by
  unfold RB at *
  rw [b.block g hg]
  exact h
theorem Chg.belB {g : Nat} {w w' w'' : World} (a : Chg g w w') (b : Below w.heap.size w' w'') : Chg g w w'' :=
  ⟨b.os.trans a.os, b.tape.trans a.tape, b.output.trans a.out, Nat.le_trans a.size b.size, fun k h1 h2 => (b.block k h1).trans (a.block k h1 h2)⟩
theorem rd_one (w : World) (t : List UInt8) (S : ByteArray) (hS : S = str t) : RdS (.slice (some ⟨w.heap.size, 0, none⟩) 1 1) [t] (w.alloc (.cells #[.string S] 9)) :=
  ⟨_, _, rfl, .inr ⟨w.heap.size, 0, rfl, by simp, fun j hj => by
    have : j = 0 := by simpa using hj
    subst this
    simp [hS]⟩⟩
theorem rd_both (w : World) (t u : List UInt8) (S U : ByteArray) (hS : S = str t) (hU : U = str u) : RdS (.slice (some ⟨w.heap.size, 0, none⟩) 2 2) [t, u] (w.alloc (.cells #[.string S, .string U] 9)) :=
  ⟨_, _, rfl, .inr ⟨w.heap.size, 0, rfl, by simp, fun j hj => by
    have hj2 : j < 2 := by simpa using hj
    match j, hj2 with
    | 0, _ => simp [hS]
    | 1, _ => simp [hU]⟩⟩

set_option maxRecDepth 100000 in
set_option maxHeartbeats 1500000 in
theorem pieces_any (g : Nat) (s : ByteArray) (hs : s.size ≤ 1000000000) (op cl : List UInt8) (hop : op.length ≤ 4000000) (hcl : cl.length ≤ 4000000) (w0 : World) (hml : ML w0) (hpw : Pow w0) (hg : w0.heap.size ≤ g) (w : World) (hb : Below w0.heap.size w0 w) (hR : RB w g s 0) :
    Calls Tryz.prog 35 #[.pointer (some ⟨g, 0, none⟩), .string (str op), .string (str cl)] w fun e w' => ∃ lv, e = .returned (.tuple #[lv, .int .i64 (goA op cl s.data.toList (s.size + 1) 0 []).2.1]) ∧ ((goA op cl s.data.toList (s.size + 1) 0 []).2.1 = 0 → OwnC 40 w.heap.size lv (goA op cl s.data.toList (s.size + 1) 0 []).1 w') ∧ RB w' g s (goA op cl s.data.toList (s.size + 1) 0 []).2.2 ∧ Chg g w w' := by
  have hgw := hR.lt
  have HTk : Hid (∀ (a : Nat) (ts : List (List UInt8)) W tv, a ≤ s.size → ts.length ≤ 100 → (∀ t ∈ ts, t.length ≤ 4000000000) → RB W g s a → RdS tv ts W → Calls _ _ _ W _) := fun a ts W tv h1 h2 h3 h4 h5 => take_any g s a h1 (by omega) 92 tv ts h2 h3 W h4 h5
  have HPc : Hid (∀ (a : Nat) W, a ≤ s.size → Chg g w W → RB W g s a → Calls _ _ _ W _) := fun a W h1 c h2 => piece_any g s a h1 (by omega) w0 hml hpw hg W (hb.trans (c.below hg hb.size)) h2
  have E1 : ∀ (l : List UInt8), ((str l).toList == (str op).toList) = decide (l = op) := fun l => by
    rw [ByteArray.toList_eq, ByteArray.toList_eq, str_list, str_list, Bool.eq_iff_iff]
    simp
  have HE1 : Hid (∀ (l : List UInt8), ((str l).toList == (str op).toList) = decide (l = op)) := E1
  have HR0 : Hid (RB w g s 0) := hR
  have hsl : s.data.toList.length = s.size := size_list s
  have HSL : Hid (s.data.toList.length = s.size) := hsl
  obtain ⟨R, HRR⟩ : ∃ R, Hid (R = goA op cl s.data.toList (s.size + 1) 0 []) := ⟨_, rfl⟩
  rw [← HRR.out]
  clear E1 hR hb hsl
  obtain ⟨OP, HOP⟩ : ∃ OP, Hid (OP = str op) := ⟨_, rfl⟩
  obtain ⟨CL, HCL⟩ : ∃ CL, Hid (CL = str cl) := ⟨_, rfl⟩
  rw [← HOP.out, ← HCL.out]
  have HE1' : Hid (∀ (l : List UInt8), ((str l).toList == OP.toList) = decide (l = op)) := (fun l => by rw [HOP.out]; exact HE1.out l : ∀ l, _)
  clear HE1
  generalize hll : s.data.toList = l at *
  clear hll
  obtain ⟨w1, hw1⟩ : ∃ w1, w1 = w.alloc (.cells #[.string OP] 9) := ⟨_, rfl⟩
  have hb1 : Below w.heap.size w w1 := by rw [hw1]; exact (Below.refl _ w).alloc (Nat.le_refl _) _
  have HR1 : Hid (RB w1 g s 0) := HR0.out.below hb1
  have HC1 : Hid (Chg g w w1) := Chg.of g hb1
  have HT1 : Hid (RdS (.slice (some ⟨w.heap.size, 0, none⟩) 1 1) [op] w1) := (by rw [hw1]; exact rd_one w op OP HOP.out : RdS _ _ _)
  clear hb1
  go_enter Tryz.func35, Tryz.ntmps35
  go_wp2_with fail
  rw [← hw1]
  clear hw1
  refine (HTk.out 0 [op] _ _ (by omega) (by simp) (by simp; omega) HR1.out HT1.out).mono ?_
  rintro e w2 ⟨rfl, hr2, hc2⟩
  rw [List.drop_zero] at hr2 ⊢
  have HR2 : Hid (RB w2 g s (0 + (takeP l 92 [op]).2.2)) := hr2
  have HC2 : Hid (Chg g w w2) := HC1.out.trans hc2
  clear hr2 hc2 HR1 HC1 HT1
  go_wp2
  go_loopw [8, 9, 10] (fun lv mv ev wr => ∃ (a f : Nat) (acc : List Pc), a ≤ s.size ∧ s.size ≤ a + f ∧ acc.length ≤ a ∧ Hid (R = goA op cl l (f + 1) a acc) ∧ mv = .string (str (takeP (l.drop a) 92 (mksP op cl acc)).1) ∧ ev = .int .i64 (takeP (l.drop a) 92 (mksP op cl acc)).2.1 ∧ Hid (RB wr g s (a + (takeP (l.drop a) 92 (mksP op cl acc)).2.2)) ∧ Hid (OwnC 40 w.heap.size lv acc wr) ∧ Hid (Chg g w wr)) (fun _ _ _ wr => s.size + 1 - atOf wr g)
  case atStart => exact ⟨0, s.size, [], by omega, by omega, by simp, HRR, by rw [List.drop_zero]; rfl, by rw [List.drop_zero]; rfl, (by rw [List.drop_zero]; exact HR2.out : RB _ _ _ _), ownC_nil _ _ _, HC2⟩
  case round =>
    obtain ⟨a, f, acc, hal, haf, hacc, HQ, rfl, rfl, HRr, HOw, HC⟩ := hrel
    have hok := takeP_ok (l.drop a) op cl acc
    have hfar := takeP_far (l.drop a) (mksP op cl acc) 92
    rw [List.length_drop, HSL.out] at hfar
    have hq := HQ.out
    rw [goA] at hq
    have HQ2 : Hid (R = _) := hq
    clear hq HQ
    generalize takeP (l.drop a) 92 (mksP op cl acc) = t at *
    obtain ⟨tm, te, tk⟩ := t
    dsimp only at hok hfar HQ2 HRr ⊢
    obtain ⟨av, cv, rfl⟩ := HOw.out.form
    have hgs : g < wr.heap.size := HRr.out.lt
    by_cases he : te = 0
    · subst he
      have hk := hok rfl
      clear hok
      by_cases hm : tm = op
      · have hm2 := hm.symm
        clear hm
        subst hm2
        subst hk
        have hm1 : ((str op).toList == OP.toList) = true := by rw [HE1'.out]; simp
        have HAt : Hid (atOf wr g = a + op.length) := atOf_RB HRr.out
        obtain ⟨w3, hw3⟩ : ∃ w3, w3 = wr.alloc (.cells #[.string ⟨#[]⟩, .int .i64 0, .int .i64 0, .int .i64 0, .string ⟨#[]⟩] 40) := ⟨_, rfl⟩
        have hb3 : Below wr.heap.size wr w3 := by rw [hw3]; exact (Below.refl _ wr).alloc (Nat.le_refl _) _
        have HR3 : Hid (RB w3 g s (a + op.length)) := HRr.out.below hb3
        have HC3 : Hid (Chg g wr w3) := Chg.of g hb3
        have HP3 : Hid (P9 w3 wr.heap.size ⟨#[]⟩ 0 0 0 ⟨#[]⟩) := (by rw [hw3]; exact heap_alloc_new wr _ : P9 _ _ _ _ _ _ _)
        clear hb3
        have hgne : wr.heap.size ≠ g := by omega
        have hwr : w.heap.size ≤ wr.heap.size := HC.out.size
        go_wp2_with fail
        rw [← hw3]
        clear hw3
        have hP2 := pieceP_two (l.drop (a + op.length))
        have hPf := pieceP_far (l.drop (a + op.length))
        rw [List.length_drop, HSL.out] at hPf
        refine (HPc.out (a + op.length) w3 (by omega) (HC.out.trans HC3.out) HR3.out).mono ?_
        rintro e w4 ⟨pm, p1, p2, p3, py, rfl, hp4, hr4, hc4⟩
        generalize pieceP (l.drop (a + op.length)) = P at *
        obtain ⟨pp, pe, pk⟩ := P
        dsimp only at hP2 hPf HQ2 hp4 hr4 ⊢
        obtain ⟨w5, hw5⟩ : ∃ w5, w5 = (((((w4.setCell ⟨wr.heap.size, 0, none⟩ (.string pm)).setCell ⟨wr.heap.size, 1, none⟩ (.int .i64 p1)).setCell ⟨wr.heap.size, 2, none⟩ (.int .i64 p2)).setCell ⟨wr.heap.size, 3, none⟩ (.int .i64 p3)).setCell ⟨wr.heap.size, 4, none⟩ (.string py)) := ⟨_, rfl⟩
        have HR5 : Hid (RB w5 g s (a + op.length + pk)) := (by rw [hw5]; exact ((((hr4.chgo hgne _).chgo hgne _).chgo hgne _).chgo hgne _).chgo hgne _ : RB _ _ _ _)
        have HCw : Hid (Chg g wr w5) := (by rw [hw5]; exact (((((HC3.out.trans hc4).fresh (Nat.le_refl _) _ _).fresh (Nat.le_refl _) _ _).fresh (Nat.le_refl _) _ _).fresh (Nat.le_refl _) _ _).fresh (Nat.le_refl _) _ _ : Chg _ _ _)
        have HC5 : Hid (Chg g w w5) := HC.out.trans HCw.out
        have HO5 : Hid (OwnC 40 w.heap.size (.slice av acc.length cv) acc w5) := HOw.out.chg HCw.out (by omega)
        have HP4 : Hid (P9 w4 wr.heap.size ⟨#[]⟩ 0 0 0 ⟨#[]⟩) := HP3.out.chg hc4 hgne
        clear hr4 hc4 HR3 HC3 HP3 HRr HC HOw
        obtain ⟨q0, q1, q2, q3, q4⟩ := HP4.out.cells
        have y0 := HP4.out.fz 0
        have y1 := HP4.out.fz 1
        have y2 := HP4.out.fz 2
        have y3 := HP4.out.fz 3
        have y4 := HP4.out.fz 4
        by_cases hpe : pe = 0
        · subst hpe
          obtain ⟨e1, e2, e3, e4, e5⟩ := hp4 rfl
          have HE : Hid (pm = str pp.media ∧ p1 = pp.sp.1 ∧ p2 = pp.sp.2 ∧ p3 = pp.size ∧ py = str pp.body) := ⟨e1, e2, e3, e4, e5⟩
          have h2 := hP2 rfl
          clear hp4 hP2 e1 e2 e3 e4 e5
          have hz5 : w.heap.size ≤ w5.heap.size := HC5.out.size
          have hz4 : w5.heap.size = w4.heap.size := by rw [hw5]; simp [World.setCell]
          have HZ5 : Hid (w.heap.size ≤ w5.heap.size) := hz5
          have hal5 : acc.length + 1 ≤ 1073741824 := by omega
          have HQ3 : Hid (R = goA op cl l f (a + op.length + pk) (acc ++ [pp])) := (by rw [HQ2.out]; simp : R = _)
          have HMk : Hid (mksP op cl (acc ++ [pp]) = [op, cl]) := (by unfold mksP; simp : _ = _)
          clear HQ2
          go_wp2_with (at_builtin; rw [← hw5]; go_must (refine wp_appC9 40 34 infoC9 Tryz.underlying34 rfl (.tmp 34) (.tmp 36) rfl w.heap.size _ acc _ pp _ _ HE.out.1 HE.out.2.2.2.2 _ _ _ HE.out.2.1 HE.out.2.2.1 HE.out.2.2.2.1 (by simp [Act.eval, Act.put]) HO5.out _ (by simp [Act.eval, Act.put]) hz4.symm hal5 HZ5.out ?_; intro v6 w6 hO6 hb6))
          have HR6 : Hid (RB w6 g s (a + op.length + pk)) := HR5.out.belB hb6 hgw
          have HC6 : Hid (Chg g w w6) := HC5.out.belB hb6
          have HO6 : Hid (OwnC 40 w.heap.size v6 (acc ++ [pp]) w6) := hO6
          clear hO6 hb6 HR5 HC5 HO5 HCw HP4 q0 q1 q2 q3 q4 y0 y1 y2 y3 y4 hw5 hz4 hz5 HZ5
          go_wp2_with fail
          obtain ⟨w7, hw7⟩ : ∃ w7, w7 = w6.alloc (.cells #[.string OP, .string CL] 9) := ⟨_, rfl⟩
          have hb7 : Below w6.heap.size w6 w7 := by rw [hw7]; exact (Below.refl _ w6).alloc (Nat.le_refl _) _
          have HR7 : Hid (RB w7 g s (a + op.length + pk)) := HR6.out.below hb7
          have HC7 : Hid (Chg g w w7) := HC6.out.bel hb7
          have HO7 : Hid (OwnC 40 w.heap.size v6 (acc ++ [pp]) w7) := HO6.out.below hb7
          have HT7 : Hid (RdS (.slice (some ⟨w6.heap.size, 0, none⟩) 2 2) [op, cl] w7) := (by rw [hw7]; exact rd_both w6 op cl OP CL HOP.out HCL.out : RdS _ _ _)
          clear hb7 HR6 HC6 HO6
          rw [← hw7]
          clear hw7
          refine (HTk.out (a + op.length + pk) [op, cl] _ _ (by omega) (by simp) (by simp; omega) HR7.out HT7.out).mono ?_
          rintro e w8 ⟨rfl, hr8, hc8⟩
          have HR8 : Hid (RB w8 g s (a + op.length + pk + (takeP (l.drop (a + op.length + pk)) 92 [op, cl]).2.2)) := hr8
          have HC8 : Hid (Chg g w w8) := HC7.out.trans hc8
          have HO8 : Hid (OwnC 40 w.heap.size v6 (acc ++ [pp]) w8) := HO7.out.chg hc8 hgw
          clear hr8 hc8 HR7 HC7 HO7 HT7
          go_wp2
          go_roundw
          case rel =>
            obtain ⟨f', rfl⟩ : ∃ f', f = f' + 1 := ⟨f - 1, by omega⟩
            refine ⟨a + op.length + pk, f', acc ++ [pp], by omega, by omega, by rw [List.length_append]; simp; omega, HQ3, ?_, ?_, ?_, HO8, HC8⟩
            · rw [HMk.out]
            · rw [HMk.out]
            · rw [HMk.out]; exact HR8
          case measure =>
            have hh := atOf_RB HR8.out
            rw [HAt.out, hh]
            omega
        · have HQ3 : Hid (R = _) := (by rw [HQ2.out]; simp [hpe] : R = ([], pe, a + op.length + pk))
          go_wp2
          rw [← hw5]
          go_ret2
          rw [HQ3.out]
          exact ⟨_, rfl, fun h => absurd h hpe, HR5.out, HC5.out⟩
      · have hm1 : ((str tm).toList == OP.toList) = false := by rw [HE1'.out]; simp [hm]
        have c0 := HRr.out.c0
        have c1 := HRr.out.c1
        by_cases hlt : a + tk < s.size
        · have HQ3 : Hid (R = _) := (by rw [HQ2.out]; simp [hm, HSL.out, hlt] : R = ([], 92, a + tk))
          go_wp2
          go_quiet (fail)
          obtain ⟨w3, hw3⟩ : ∃ w3, w3 = wr.drewN nq := ⟨_, rfl⟩
          have hb3 : Below wr.heap.size wr w3 := by rw [hw3]; exact ⟨rfl, rfl, rfl, Nat.le_refl _, fun _ _ => rfl⟩
          rw [← hw3]
          clear hw3
          have HR3 : Hid (RB w3 g s (a + tk)) := HRr.out.below hb3
          have HC3 : Hid (Chg g w w3) := HC.out.bel hb3
          have HO3 : Hid (OwnC 40 w.heap.size (.slice av acc.length cv) acc w3) := HOw.out.below hb3
          clear hb3
          go_wp2
          go_ret2
          rw [HQ3.out]
          exact ⟨_, rfl, fun h => absurd h (by simp), HR3.out, HC3.out⟩
        · have HQ3 : Hid (R = _) := (by rw [HQ2.out]; simp [hm, HSL.out, hlt] : R = (acc, 0, a + tk))
          go_wp2
          go_quiet (fail)
          obtain ⟨w3, hw3⟩ : ∃ w3, w3 = wr.drewN nq := ⟨_, rfl⟩
          have hb3 : Below wr.heap.size wr w3 := by rw [hw3]; exact ⟨rfl, rfl, rfl, Nat.le_refl _, fun _ _ => rfl⟩
          rw [← hw3]
          clear hw3
          have HR3 : Hid (RB w3 g s (a + tk)) := HRr.out.below hb3
          have HC3 : Hid (Chg g w w3) := HC.out.bel hb3
          have HO3 : Hid (OwnC 40 w.heap.size (.slice av acc.length cv) acc w3) := HOw.out.below hb3
          clear hb3
          go_wp2
          go_ret2
          rw [HQ3.out]
          exact ⟨_, rfl, fun h => HO3.out, HR3.out, HC3.out⟩
    · have HQ3 : Hid (R = _) := (by rw [HQ2.out]; simp [he] : R = ([], te, a + tk))
      have c0 := HRr.out.c0
      have c1 := HRr.out.c1
      go_wp2
      go_quiet (fail)
      obtain ⟨w3, hw3⟩ : ∃ w3, w3 = wr.drewN nq := ⟨_, rfl⟩
      have hb3 : Below wr.heap.size wr w3 := by rw [hw3]; exact ⟨rfl, rfl, rfl, Nat.le_refl _, fun _ _ => rfl⟩
      rw [← hw3]
      clear hw3
      have HR3 : Hid (RB w3 g s (a + tk)) := HRr.out.below hb3
      have HC3 : Hid (Chg g w w3) := HC.out.bel hb3
      have HO3 : Hid (OwnC 40 w.heap.size (.slice av acc.length cv) acc w3) := HOw.out.below hb3
      clear hb3
      go_wp2
      go_ret2
      rw [HQ3.out]
      exact ⟨_, rfl, fun h => absurd h he, HR3.out, HC3.out⟩

end Sn
end Go.Proofs.YthdfgepnadgkjaaGreatDoor
