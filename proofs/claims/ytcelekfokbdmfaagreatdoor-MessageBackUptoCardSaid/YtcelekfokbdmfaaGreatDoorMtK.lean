import Derived.Test.YtcelekfokbdmfaaGreatDoorMtI
import Derived.Test.YtcelekfokbdmfaaGreatDoorMgD1
import Derived.Test.YtcelekfokbdmfaaGreatDoorMgQ
import Derived.BigQuiet
import Derived.Deep.RegionHeld3
set_option linter.unusedVariables false
set_option linter.unusedSimpArgs false
set_option maxRecDepth 100000
namespace Go.Proofs.YtcelekfokbdmfaaGreatDoor
open Go.RowKit Go.Shelf
namespace Ms
open Oc Tg _root_.Go.Proofs.YtcelekfokbdmfaaGreatDoor.Fd _root_.Go.Proofs.YtcelekfokbdmfaaGreatDoor.Ck
set_option maxHeartbeats 8000000 in
theorem rHead_any (r : Rs) (m : Mn) (hn : i64 r.st) (hrl : r.rs.length ≤ 1048576) (hbl : r.bd.length ≤ 1048576) (hS : sumF r.fs ≤ 1048576) (vf vs vt : Value) (sa : Option Addr) (cs : Nat) (hvs : vs = .slice sa m.sz.length cs) (w : World) (hf : InF vf r.fs w) (ht : RdF vt m.tr w) :
    Calls Tryz.prog 11 #[.agg #[.int .i64 r.st, .string (str r.rs), vf, .string (str r.bd)], .agg #[.string (str m.me), .bool m.cl, .bool m.old, .bool m.ch, vs, vt]] w fun e w' => e = .returned (.tuple #[.string (str (headR r m).1), .int .i64 (headR r m).2]) ∧ Below w.heap.size w w' := by
  obtain ⟨af, cf, rfl, _⟩ := hf.1
  obtain ⟨ta, ct, rfl, _⟩ := ht
  subst hvs
  have HIf : Hid (InF (.slice af r.fs.length cf) r.fs w) := hf
  have HS2 : Hid (∀ W, Calls Tryz.prog 37 #[.string (str r.rs)] W fun e w' => e = .returned (.bool (isRs r.rs)) ∧ w' = W) := fun W => by
    have h := rIsReason_any (str r.rs) (by rw [str_size]; omega) W
    rw [str_list] at h
    exact h
  have HS4 : Hid (∀ W, RdF (.slice af r.fs.length cf) r.fs W → Calls _ _ _ W _) := fun W h => rframed_any r m hS af sa ta cf cs ct W h
  have hlen := len_sumF r.fs
  have HQ : Hid (headR r m = if isSt r.st = false then ([], 120) else if isRs r.rs = false then ([], 121) else if frmR r m = true then ([], 123) else if (printT (r.fs ++ behF r m)).2 ≠ 0 then ([], (printT (r.fs ++ behF r m)).2) else (hdP r (printT (r.fs ++ behF r m)).1, 0)) := (by
    unfold headR frmR
    cases anyI r.fs r.st <;> cases misf r m <;> simp : _ = _)
  have HS5 : 100 ≤ r.st → Hid (∀ W, Calls Tryz.prog 40 #[.agg #[.int .i64 r.st, .string (str r.rs), .slice af r.fs.length cf, .string (str r.bd)], .agg #[.string (str m.me), .bool m.cl, .bool m.old, .bool m.ch, .slice sa m.sz.length cs, .slice ta m.tr.length ct]] W fun e w' => ∃ v, e = .returned v ∧ OwnF 80 (World.heap W).size v (behF r m) w' ∧ Below (World.heap W).size W w') := fun h100 W => rBehind_any r m hn h100 (by omega) af sa ta cf cs ct W
  have hbs := beh_sum r m (by omega)
  have hss : sumF (r.fs ++ behF r m) ≤ 4000000 := by rw [sumF_app]; omega
  have hll : r.fs.length + (behF r m).length ≤ 2147483648 := by omega
  have hfl : r.fs.length ≤ 2147483648 := by omega
  generalize hBH : behF r m = BH at *
  clear hBH hbs
  have HPr : Hid (∀ v W, RdF v (r.fs ++ BH) W → Calls Tryz.prog 39 #[v] W fun e w' => e = .returned (.tuple #[.string (str (printT (r.fs ++ BH)).1), .int .i64 (printT (r.fs ++ BH)).2]) ∧ Below (World.heap W).size W w') := fun v W h => rPrint_any v (r.fs ++ BH) hss W h
  have hpl := printT_len (r.fs ++ BH)
  have hpl2 : (printT (r.fs ++ BH)).1.length ≤ 8000000 := by omega
  clear hss hpl
  have HTT : Hid (∃ TT, TT = r.fs ++ BH) := ⟨_, rfl⟩
  generalize hPT : printT (r.fs ++ BH) = PT at *
  obtain ⟨P1, P2⟩ := PT
  dsimp only at HPr HQ hpl2
  clear hPT
  obtain ⟨P1s, hP1s⟩ : ∃ P1s, P1s = str P1 := ⟨_, rfl⟩
  rw [← hP1s] at HPr
  have HP1 : Hid (P1s = str P1) := hP1s
  have hP1z : P1s.size ≤ 8000000 := by rw [hP1s, str_size]; exact hpl2
  clear hP1s hpl2
  have HSt : Hid (isSt r.st = decide (100 ≤ r.st ∧ r.st ≤ 599)) := rfl
  generalize headR r m = R at *
  generalize isSt r.st = b1 at *
  generalize isRs r.rs = b2 at *
  generalize frmR r m = b3 at *
  obtain ⟨W0, hW0⟩ : ∃ W0, W0 = (w.alloc (.cells #[.int .i64 r.st, .string (str r.rs), .slice af r.fs.length cf, .string (str r.bd)] 38)).alloc (.cells #[.string (str m.me), .bool m.cl, .bool m.old, .bool m.ch, .slice sa m.sz.length cs, .slice ta m.tr.length ct] 41) := ⟨_, rfl⟩
  have hB := box2 38 41 w [.int .i64 r.st, .string (str r.rs), .slice af r.fs.length cf, .string (str r.bd)] [.string (str m.me), .bool m.cl, .bool m.old, .bool m.ch, .slice sa m.sz.length cs, .slice ta m.tr.length ct]
  have HB0 : Hid (Below w.heap.size w W0) := (by rw [hW0]; exact hB.bel : Below _ _ _)
  have HM0 : Hid (Blk 41 W0 (w.heap.size + 1) [.string (str m.me), .bool m.cl, .bool m.old, .bool m.ch, .slice sa m.sz.length cs, .slice ta m.tr.length ct]) := (by rw [hW0]; exact hB.man : Blk _ _ _ _)
  have HR0 : Hid (Blk 38 W0 w.heap.size [.int .i64 r.st, .string (str r.rs), .slice af r.fs.length cf, .string (str r.bd)]) := (by rw [hW0]; exact hB.resp : Blk _ _ _ _)
  have hsz0 : W0.heap.size = w.heap.size + 2 := by rw [hW0]; simp
  have HZ0 : Hid (W0.heap.size = w.heap.size + 2) := hsz0
  have HW0 : Hid (W0 = _) := hW0
  clear hB hW0 hf hsz0
  generalize hBD : str r.bd = BD at *
  generalize hRS : str r.rs = RS at *
  have HRS : Hid (str r.rs = RS) := hRS
  generalize str m.me = ME at *
  clear hBD hRS
  have HX : Hid (∀ W, Below W0.heap.size W0 W → (Below w.heap.size w W ∧ InF (.slice af r.fs.length cf) r.fs W ∧ w.heap.size < W.heap.size ∧ w.heap.size + 1 < W.heap.size) ∧ (W.cell? ⟨w.heap.size, 0, none⟩ = some (.int .i64 r.st) ∧ W.cell? ⟨w.heap.size, 1, none⟩ = some (.string RS) ∧ W.cell? ⟨w.heap.size, 2, none⟩ = some (.slice af r.fs.length cf) ∧ W.cell? ⟨w.heap.size, 3, none⟩ = some (.string BD) ∧ W.cell? ⟨w.heap.size + 1, 0, none⟩ = some (.string ME) ∧ W.cell? ⟨w.heap.size + 1, 1, none⟩ = some (.bool m.cl) ∧ W.cell? ⟨w.heap.size + 1, 2, none⟩ = some (.bool m.old) ∧ W.cell? ⟨w.heap.size + 1, 3, none⟩ = some (.bool m.ch) ∧ W.cell? ⟨w.heap.size + 1, 4, none⟩ = some (.slice sa m.sz.length cs) ∧ W.cell? ⟨w.heap.size + 1, 5, none⟩ = some (.slice ta m.tr.length ct))) := fun W hW => by
    have hb := HB0.out.trans (hW.mono HB0.out.size)
    have h1 := HR0.out.below hW
    have h2 := HM0.out.below hW
    have hs := hW.size
    have hz := HZ0.out
    exact ⟨⟨hb, HIf.out.below hb, by omega, by omega⟩, h1.cell 0 rfl, h1.cell 1 rfl, h1.cell 2 rfl, h1.cell 3 rfl, h2.cell 0 rfl, h2.cell 1 rfl, h2.cell 2 rfl, h2.cell 3 rfl, h2.cell 4 rfl, h2.cell 5 rfl⟩
  have HBz : Hid (Below W0.heap.size W0 W0) := Below.refl _ _
  cases b1 with
  | false =>
    have HQ2 : Hid (R = ([], 120)) := HQ.out.trans (if_pos rfl)
    have hno : ¬ (100 ≤ r.st ∧ r.st ≤ 599) := by have := HSt.out; simpa using this.symm
    obtain ⟨c0, -, -, -, -, -, -, -, -, -⟩ := (HX.out _ HBz.out).2
    go_enter Tryz.func11, Tryz.ntmps11
    by_cases hl : r.st < 100
    · clear hno HSt
      go_wp2
      go_ret2
      rw [HQ2.out]
      refine ⟨rfl, ?_⟩
      first | exact HB0.out | (rw [← HW0.out]; exact HB0.out)
    · have hg : 599 < r.st := by omega
      clear hno HSt
      go_wp2
      go_ret2
      rw [HQ2.out]
      refine ⟨rfl, ?_⟩
      first | exact HB0.out | (rw [← HW0.out]; exact HB0.out)
  | true =>
  have hyes : 100 ≤ r.st ∧ r.st ≤ 599 := by have := HSt.out; simpa using this.symm
  obtain ⟨h100, h599⟩ := hyes
  have hl1 : ¬ r.st < 100 := by omega
  have hl2 : ¬ 599 < r.st := by omega
  have HBe := HS5 h100
  have HQa : Hid (R = _) := HQ.out.trans (if_neg (by simp))
  clear HQ HS5 h599 HSt
  go_enter Tryz.func11, Tryz.ntmps11
  go_wp2_with fail
  rw [← HW0.out]
  refine (HS2.out _).mono ?_
  rintro e w1 ⟨rfl, hw1⟩
  rw [hw1]
  clear hw1 w1
  cases b2 with
  | false =>
    have HQ2 : Hid (R = ([], 121)) := HQa.out.trans (if_pos rfl)
    go_wp2
    go_ret2
    rw [HQ2.out]
    exact ⟨rfl, HB0.out⟩
  | true =>
  have HQb : Hid (R = _) := HQa.out.trans (if_neg (by simp))
  clear HQa HW0
  obtain ⟨c0, c1, c2, c3, n0, n1, n2, n3, n4, n5⟩ := (HX.out _ HBz.out).2
  go_wp2_with fail
  refine (HS4.out _ (HX.out _ HBz.out).1.2.1.1).mono ?_
  rintro e w3 ⟨rfl, hb3⟩
  have HB3 : Hid (Below W0.heap.size W0 w3) := hb3
  clear hb3 c0 c1 c2 c3 n0 n1 n2 n3 n4 n5 HS4 HS2
  cases b3 with
  | true =>
    have HQ2 : Hid (R = ([], 123)) := HQb.out.trans (if_pos rfl)
    go_wp2
    go_ret2
    rw [HQ2.out]
    exact ⟨rfl, HB0.out.trans (HB3.out.mono HB0.out.size)⟩
  | false =>
  have HQd : Hid (R = _) := HQb.out.trans (if_neg (by simp))
  clear HQb
  have HK : Hid (∀ W, SB w3 W → (W.cell? ⟨w.heap.size, 0, none⟩ = some (.int .i64 r.st) ∧ W.cell? ⟨w.heap.size, 1, none⟩ = some (.string RS) ∧ W.cell? ⟨w.heap.size, 2, none⟩ = some (.slice af r.fs.length cf) ∧ W.cell? ⟨w.heap.size, 3, none⟩ = some (.string BD) ∧ W.cell? ⟨w.heap.size + 1, 0, none⟩ = some (.string ME) ∧ W.cell? ⟨w.heap.size + 1, 1, none⟩ = some (.bool m.cl) ∧ W.cell? ⟨w.heap.size + 1, 2, none⟩ = some (.bool m.old) ∧ W.cell? ⟨w.heap.size + 1, 3, none⟩ = some (.bool m.ch) ∧ W.cell? ⟨w.heap.size + 1, 4, none⟩ = some (.slice sa m.sz.length cs) ∧ W.cell? ⟨w.heap.size + 1, 5, none⟩ = some (.slice ta m.tr.length ct)) ∧ SB w3 W) := fun W hW => ⟨(HX.out _ (bel_trans HB3.out hW)).2, hW⟩
  have HIx : Hid (∀ W, SB w3 W → InF (.slice af r.fs.length cf) r.fs W) := fun W hW => (HX.out _ (bel_trans HB3.out hW)).1.2.1
  have HBn : Hid (SB w3 w3) := SB.refl w3
  go_wp2_with fail
  go_region_held3 (fun W => (W.cell? ⟨w.heap.size, 0, none⟩ = some (.int .i64 r.st) ∧ W.cell? ⟨w.heap.size, 1, none⟩ = some (.string RS) ∧ W.cell? ⟨w.heap.size, 2, none⟩ = some (.slice af r.fs.length cf) ∧ W.cell? ⟨w.heap.size, 3, none⟩ = some (.string BD) ∧ W.cell? ⟨w.heap.size + 1, 0, none⟩ = some (.string ME) ∧ W.cell? ⟨w.heap.size + 1, 1, none⟩ = some (.bool m.cl) ∧ W.cell? ⟨w.heap.size + 1, 2, none⟩ = some (.bool m.old) ∧ W.cell? ⟨w.heap.size + 1, 3, none⟩ = some (.bool m.ch) ∧ W.cell? ⟨w.heap.size + 1, 4, none⟩ = some (.slice sa m.sz.length cs) ∧ W.cell? ⟨w.heap.size + 1, 5, none⟩ = some (.slice ta m.tr.length ct)) ∧ SB w3 W)
    ((refine HK.out _ ?_; first | with_reducible exact HBn.out | with_reducible exact SB.drew HBn.out | with_reducible exact SB.drew (SB.alloc HBn.out _) | with_reducible exact SB.alloc HBn.out _ | with_reducible exact SB.alloc (SB.drew HBn.out) _))
    (first
      | (go_at_call 40; refine (HBe.out _).mono ?_; rintro e wS ⟨vS, rfl, hoS, hbS⟩; obtain ⟨a4, c4, rfl⟩ := ownF_form hoS; have HBn : Hid (SB w3 wS) := SB.on (And.right (by assumption)) hbS; have HO4 : Hid (InF (.slice a4 BH.length c4) BH wS) := (OwnF.inF hoS : InF _ _ _); (try have HGs : Hid (wS.heap[w3.heap.size]? = some (.cells #[] 80 (0, 0))) := Below.kept1 (w := (w3.alloc (.cells #[] 80)).drew) hbS (by simp) (heap_alloc_new w3 _)); (try have HO5 : Hid (OwnF 80 w3.heap.size v5 r.fs wS) := OwnF.below HO5.out hbS); clear hoS hbS)
      | ((with_reducible refine at_world ((w3.alloc (.cells #[] 80)).drew) ?_); refine step_freshF 80 36 infoF12 Tryz.underlying36 rfl (.tmp 25) (.tmp 27) rfl w3.heap.size w3.heap.size (.slice af r.fs.length cf) r.fs ((w3.alloc (.cells #[] 80)).drew) rfl (Nat.le_refl _) (heap_alloc_new w3 _) rfl (HIx.out _ (SB.drew (SB.alloc (SB.refl w3) _))) hfl ?_; intro v5 w5 HO5 hb5; have HBn : Hid (SB w3 w5) := SB.on (SB.drew (SB.alloc (SB.refl w3) _)) hb5.out; clear hb5)
      | ((with_reducible refine at_world (wS) ?_); refine step_freshF 80 36 infoF12 Tryz.underlying36 rfl (.tmp 25) (.tmp 27) rfl w3.heap.size w3.heap.size (.slice af r.fs.length cf) r.fs (wS) rfl (Nat.le_refl _) HGs.out rfl (HIx.out _ HBn.out) hfl ?_; intro v5 w5 HO5 hb5; have HBn : Hid (SB w3 w5) := SB.on HBn.out hb5.out; have HO4 : Hid (InF (.slice a4 BH.length c4) BH w5) := InF.below HO4.out hb5.out; clear hb5)
      | ((with_reducible refine at_world (wS.alloc (.cells #[] 80)) ?_); refine step_freshF 80 36 infoF12 Tryz.underlying36 rfl (.tmp 25) (.tmp 27) rfl w3.heap.size wS.heap.size (.slice af r.fs.length cf) r.fs (wS.alloc (.cells #[] 80)) rfl HBn.out.size (heap_alloc_new wS _) rfl (HIx.out _ (SB.alloc HBn.out _)) hfl ?_; intro v5 w5 HO5 hb5; have HBn : Hid (SB w3 w5) := SB.on (SB.alloc HBn.out _) hb5.out; have HO4 : Hid (InF (.slice a4 BH.length c4) BH w5) := InF.below (InF.below HO4.out ((Below.refl _ wS).alloc (Nat.le_refl _) _)) hb5.out; clear hb5)
      | (refine step_appX 80 36 infoF12 Tryz.underlying36 rfl (.tmp 28) (.tmp 31) rfl w3.heap.size v5 (.slice a4 BH.length c4) r.fs BH _ rfl HO5.out rfl HO4.out hll HBn.out.size ?_; intro v6 w6 HO6 hb6; have HBn : Hid (SB w3 w6) := HBn.out.trans hb6.out; clear hb6)
      | (go_at_call 39; (with_reducible refine (HPr.out _ _ HO6.out.rd).mono ?_); rintro e w7 ⟨rfl, hb7⟩; have HBn : Hid (SB w3 w7) := SB.on HBn.out hb7; clear hb7))
  all_goals
    go_simp
    have HB7 : Hid (Below W0.heap.size W0 w7) := bel_trans HB3.out HBn.out
    obtain ⟨q0, q1, _, _, _, _, _, _, _, _⟩ := (HX.out _ HB7.out).2
    have HBw : Hid (Below w.heap.size w w7) := (HX.out _ HB7.out).1.1
    clear HPr HB3 HBe HTT HK HIx
    by_cases hz : P2 = 0
    case neg =>
      have hz1 : (P2 != 0) = true := by simp [hz]
      have HQ2 : Hid (R = ([], P2)) := HQd.out.trans (if_pos hz)
      clear hz
      go_wp2
      go_ret2
      rw [HQ2.out]
      exact ⟨rfl, HBw.out⟩
    subst hz
    have HQ2 : Hid (R = (hdP r P1, 0)) := HQd.out.trans (if_neg (fun h => h rfl))
    have HRe : Hid (∀ W, Calls _ _ _ W _) := fun W => rReason_any r.st hn W
    have HDg : Hid (∀ W, Calls Tryz.prog 42 #[.int .i64 r.st] W fun e w' => e = .returned (.string (str (Lib.itoa r.st))) ∧ Below (World.heap W).size W w') := fun W => by
      have h := rDigits12_any r.st hn W
      rw [show dgR r.st = Lib.itoa r.st by unfold dgR; rw [if_neg (by omega)]] at h
      exact h
    have hdz : (str (Lib.itoa r.st)).size ≤ 21 := by rw [str_size]; exact Lib.itoa_length_le r.st hn.1 hn.2
    have hrz : (str (rsL r.st)).size ≤ 40 := by rw [str_size]; exact rsL_len r.st
    have hRz : RS.size ≤ 1048576 := by rw [← HRS.out, str_size]; exact hrl
    have HEa : r.rs = [] → Hid (str (hdP r P1) = (⟨#[72, 84, 84, 80, 47, 49, 46, 49, 32]⟩ : ByteArray) ++ str (Lib.itoa r.st) ++ ⟨#[32]⟩ ++ str (rsL r.st) ++ ⟨#[13, 10]⟩ ++ P1s ++ ⟨#[13, 10]⟩) := fun h => (by
      rw [HP1.out]
      unfold hdP
      rw [if_pos h]
      simp only [← str_app]
      rfl : _ = _)
    have HEb : r.rs ≠ [] → Hid (str (hdP r P1) = (⟨#[72, 84, 84, 80, 47, 49, 46, 49, 32]⟩ : ByteArray) ++ str (Lib.itoa r.st) ++ ⟨#[32]⟩ ++ RS ++ ⟨#[13, 10]⟩ ++ P1s ++ ⟨#[13, 10]⟩) := fun h => (by
      rw [HP1.out, ← HRS.out]
      unfold hdP
      rw [if_neg h]
      simp only [← str_app]
      rfl : _ = _)
    have hme : r.rs = [] ∧ RS.toList.isEmpty = true ∨ r.rs ≠ [] ∧ RS.toList.isEmpty = false := by
      rw [← HRS.out]
      by_cases h : r.rs = []
      · exact .inl ⟨h, empty_of (by rw [h]; rfl)⟩
      · exact .inr ⟨h, nonempty_of (by rw [str_size]; exact fun e => h (List.length_eq_zero_iff.1 e))⟩
    generalize str (Lib.itoa r.st) = DG at *
    generalize str (rsL r.st) = RE at *
    have hk9 : (⟨#[72, 84, 84, 80, 47, 49, 46, 49, 32]⟩ : ByteArray).size = 9 := rfl
    have t1 : 9 + DG.size ≤ 9223372036854775807 := by omega
    have t2 : 9 + DG.size + 1 ≤ 9223372036854775807 := by omega
    rcases hme with ⟨h1, h2⟩ | ⟨h1, h2⟩
    · have HE := HEa h1
      clear HEa HEb h1
      go_wp2_with fail
      refine (HRe.out _).mono ?_
      rintro e w8 ⟨rfl, hb8⟩
      have HB8 : Hid (Below w.heap.size w w8) := bel_trans HBw.out hb8
      have q0 : w8.cell? ⟨w.heap.size, 0, none⟩ = some (.int .i64 r.st) := (hb8.cell (by have := (HX.out _ HB7.out).1.2.2.1; exact this)).trans q0
      clear hb8
      go_wp2_with fail
      refine (HDg.out _).mono ?_
      rintro e w9 ⟨rfl, hb9⟩
      have HB9 : Hid (Below w.heap.size w w9) := bel_trans HB8.out hb9
      clear hb9
      have t3 : 9 + DG.size + 1 + RE.size ≤ 9223372036854775807 := by omega
      have t4 : 9 + DG.size + 1 + RE.size + 2 ≤ 9223372036854775807 := by omega
      have t5 : 9 + DG.size + 1 + RE.size + 2 + P1s.size ≤ 9223372036854775807 := by omega
      have t6 : 9 + DG.size + 1 + RE.size + 2 + P1s.size + 2 ≤ 9223372036854775807 := by omega
      go_wp2
      go_ret2
      rw [HQ2.out]
      refine ⟨?_, HB9.out⟩
      rw [HE.out]
      rfl
    · have HE := HEb h1
      clear HEa HEb h1
      go_wp2_with fail
      refine (HDg.out _).mono ?_
      rintro e w8 ⟨rfl, hb8⟩
      have HB8 : Hid (Below w.heap.size w w8) := bel_trans HBw.out hb8
      clear hb8
      go_wp2
      go_ret2
      rw [HQ2.out]
      refine ⟨?_, HB8.out⟩
      rw [HE.out]
      rfl
end Ms
end Go.Proofs.YtcelekfokbdmfaaGreatDoor
