import Derived.Test.YtdcfhnbagldilaaGreatDoorMsY
import Derived.Test.YtdcfhnbagldilaaGreatDoorMgN
import Derived.BigQuiet
import Derived.Deep.RegionHeld3
set_option linter.unusedVariables false
set_option linter.unusedSimpArgs false
set_option maxRecDepth 100000
namespace Go.Proofs.YtdcfhnbagldilaaGreatDoor
open Go.RowKit Go.Shelf
namespace Ms
open Oc Tg _root_.Go.Proofs.YtdcfhnbagldilaaGreatDoor.Fd _root_.Go.Proofs.YtdcfhnbagldilaaGreatDoor.Ck
def hdP (r : Rs) (l : List UInt8) : List UInt8 := [72, 84, 84, 80, 47, 49, 46, 49, 32] ++ Lib.itoa r.st ++ [32] ++ (if r.rs = [] then rsL r.st else r.rs) ++ [13, 10] ++ l ++ [13, 10]
def headR (r : Rs) (m : Mn) : List UInt8 × Int :=
  if isSt r.st = false then ([], 120) else if isRs r.rs = false then ([], 121) else if anyI r.fs r.st = true then ([], 123) else if misf r m = true then ([], 123)
  else if (printT (r.fs ++ behF r m)).2 ≠ 0 then ([], (printT (r.fs ++ behF r m)).2) else (hdP r (printT (r.fs ++ behF r m)).1, 0)
theorem sumF_app (a b : List Fl) : sumF (a ++ b) = sumF a + sumF b := by
  unfold sumF
  rw [List.map_append, List.sum_append]
theorem beh_sum (r : Rs) (m : Mn) (hb : r.bd.length ≤ 1048576) : sumF (behF r m) ≤ 200 ∧ (behF r m).length ≤ 2 := by
  have hi := Lib.itoa_length_le (r.bd.length : Int) (by omega) (by omega)
  generalize hI : Lib.itoa (r.bd.length : Int) = I at hi
  unfold behF
  rw [hI, sumF_app, List.length_append]
  have e1 : sumF [(nTE, [99, 104, 117, 110, 107, 101, 100])] = 27 := by decide
  have e2 : sumF [(nCn, [99, 108, 111, 115, 101])] = 18 := by decide
  have e3 : sumF [(nCn, [107, 101, 101, 112, 45, 97, 108, 105, 118, 101])] = 23 := by decide
  have e4 : sumF [(nCL, I)] = I.length + 17 := by
    show (nCL.length + I.length + 3) + 0 = _
    have : nCL.length = 14 := rfl
    omega
  have e5 : sumF ([] : List Fl) = 0 := rfl
  constructor
  · repeat' split
    all_goals (simp only [e1, e2, e3, e4, e5]; omega)
  · repeat' split
    all_goals simp
theorem lineP_len4 (p : Fl) : (lineP p).length ≤ p.1.length + p.2.length + 2 := by
  unfold lineP
  split
  · simp
    omega
  · simp
    omega
theorem printG_len : ∀ (t : List Fl) (acc : List UInt8), (printG t acc).1.length ≤ acc.length + 2 * sumF t
  | [], acc => by show acc.length ≤ _; omega
  | p :: t, acc => by
    have e : sumF (p :: t) = p.1.length + p.2.length + 3 + sumF t := by
      show sumF ([p] ++ t) = _
      rw [sumF_app]
      rfl
    have hl := lineP_len4 p
    have ih := printG_len t (acc ++ lineP p ++ [13, 10])
    rw [List.length_append, List.length_append] at ih
    show (if _ then _ else _ : List UInt8 × Int).1.length ≤ _
    split
    · rw [e]
      simp only [List.length_cons, List.length_nil] at ih
      omega
    · simp
theorem printT_len (t : List Fl) : (printT t).1.length ≤ 2 * sumF t := by
  unfold printT
  split
  · simp
  · have := printG_len t []
    simpa using this
theorem rsL_len (n : Int) : (rsL n).length ≤ 40 := by
  by_cases h : ∀ k ∈ codes, n ≠ k
  · rw [rsL_none h]
    simp
  · have hk : ∃ k, k ∈ codes ∧ n = k := by
      refine Classical.byContradiction fun hn => h fun k hk e => hn ⟨k, hk, e⟩
    obtain ⟨k, hk, rfl⟩ := hk
    have hall : ∀ k ∈ codes, (rsL k).length ≤ 40 := by decide
    exact hall _ hk
set_option maxHeartbeats 4000000 in
theorem Head_any (r : Rs) (m : Mn) (hn : i64 r.st) (hrl : r.rs.length ≤ 1048576) (hbl : r.bd.length ≤ 1048576) (hS : sumF r.fs ≤ 1048576) (vf vs vt : Value) (sa : Option Addr) (cs : Nat) (hvs : vs = .slice sa m.sz.length cs) (w : World) (hf : InF vf r.fs w) (ht : RdF vt m.tr w) (hp : Pow w) (tab : Tab w) :
    Calls Tryz.prog 22 #[.agg #[.int .i64 r.st, .string (str r.rs), vf, .string (str r.bd)], .agg #[.string (str m.me), .bool m.cl, .bool m.old, .bool m.ch, vs, vt]] w fun e w' => e = .returned (.tuple #[.string (str (headR r m).1), .int .i64 (headR r m).2]) ∧ Below w.heap.size w w' := by
  obtain ⟨af, cf, rfl, _⟩ := hf.1
  obtain ⟨ta, ct, rfl, _⟩ := ht
  subst hvs
  have HIf : Hid (InF (.slice af r.fs.length cf) r.fs w) := hf
  have HP : Hid (Pow w) := hp
  have HT : Hid (Tab w) := tab
  have HS1 : Hid (∀ W, Calls _ _ _ W _) := fun W => isStatus_any r.st W
  have HS2 : Hid (∀ W, Calls Tryz.prog 44 #[.string (str r.rs)] W fun e w' => e = .returned (.bool (isRs r.rs)) ∧ Below (World.heap W).size W w') := fun W => by
    have h := isReason_any (str r.rs) (by rw [str_size]; omega) W
    rw [str_list] at h
    exact h
  have HS4 : Hid (∀ W, Calls _ _ _ W _) := fun W => misframed_any r m hn af sa ta cf cs ct W
  have HS5 : Hid (∀ W, Pow W → Calls _ _ _ W _) := fun W h => laidBehind_any r m hn (by omega) af sa ta cf cs ct W h
  have hEach : Each maxLen r.fs := ((each_sumF r.fs).mono hS).mono (by unfold maxLen; omega)
  have hlen := len_sumF r.fs
  have HS3 : Hid (∀ W B, RdF (.slice af r.fs.length cf) r.fs W → W.cell? ⟨B, 0, none⟩ = some (.int .i64 r.st) → Calls Tryz.prog 45 #[.slice af r.fs.length cf, .func (.func 46) #[] #[.pointer (some ⟨B, 0, none⟩)]] W fun e w' => e = .returned (.bool (anyI r.fs r.st)) ∧ Below (World.heap W).size W w') := fun W B h1 h2 => ContainsFunc_h _ r.fs hEach (by omega) r.st B W h1 h2
  have HQ : Hid (headR r m = if isSt r.st = false then ([], 120) else if isRs r.rs = false then ([], 121) else if anyI r.fs r.st = true then ([], 123) else if misf r m = true then ([], 123) else if (printT (r.fs ++ behF r m)).2 ≠ 0 then ([], (printT (r.fs ++ behF r m)).2) else (hdP r (printT (r.fs ++ behF r m)).1, 0)) := rfl
  generalize headR r m = R at *
  generalize isSt r.st = b1 at *
  generalize isRs r.rs = b2 at *
  generalize anyI r.fs r.st = b3 at *
  generalize misf r m = b4 at *
  obtain ⟨W0, hW0⟩ : ∃ W0, W0 = (w.alloc (.cells #[.int .i64 r.st, .string (str r.rs), .slice af r.fs.length cf, .string (str r.bd)] 27)).alloc (.cells #[.string (str m.me), .bool m.cl, .bool m.old, .bool m.ch, .slice sa m.sz.length cs, .slice ta m.tr.length ct] 52) := ⟨_, rfl⟩
  have hb0 : Below w.heap.size w W0 := by rw [hW0]; exact ((Below.refl _ w).alloc (Nat.le_refl _) _).alloc (by simp) _
  have hm0 : Blk 52 W0 (w.heap.size + 1) [.string (str m.me), .bool m.cl, .bool m.old, .bool m.ch, .slice sa m.sz.length cs, .slice ta m.tr.length ct] := by
    rw [hW0]
    have h1 := heap_alloc_new (w.alloc (.cells #[.int .i64 r.st, .string (str r.rs), .slice af r.fs.length cf, .string (str r.bd)] 27)) (.cells #[.string (str m.me), .bool m.cl, .bool m.old, .bool m.ch, .slice sa m.sz.length cs, .slice ta m.tr.length ct] 52)
    have e : (w.alloc (.cells #[.int .i64 r.st, .string (str r.rs), .slice af r.fs.length cf, .string (str r.bd)] 27)).heap.size = w.heap.size + 1 := by simp
    rw [e] at h1
    exact h1
  have hr0 : Blk 27 W0 w.heap.size [.int .i64 r.st, .string (str r.rs), .slice af r.fs.length cf, .string (str r.bd)] := by
    rw [hW0]
    exact Blk.below (heap_alloc_new w _) ((Below.refl _ _).alloc (Nat.le_refl _) _)
  have HB0 : Hid (Below w.heap.size w W0) := hb0
  have HM0 : Hid (Blk 52 W0 (w.heap.size + 1) [.string (str m.me), .bool m.cl, .bool m.old, .bool m.ch, .slice sa m.sz.length cs, .slice ta m.tr.length ct]) := hm0
  have HR0 : Hid (Blk 27 W0 w.heap.size [.int .i64 r.st, .string (str r.rs), .slice af r.fs.length cf, .string (str r.bd)]) := hr0
  have HW0 : Hid (W0 = _) := hW0
  clear hb0 hm0 hr0 hW0 hf hp tab hEach
  generalize hBD : str r.bd = BD at *
  generalize hRS : str r.rs = RS at *
  have HRS : Hid (str r.rs = RS) := hRS
  generalize str m.me = ME at *
  clear hBD hRS
  go_enter Tryz.func22, Tryz.ntmps22
  go_wp2_with fail
  rw [← HW0.out]
  refine (HS1.out _).mono ?_
  rintro e w1 ⟨rfl, hw1⟩
  rw [hw1]
  clear hw1 w1 HW0
  cases b1 with
  | false =>
    have HQ2 : Hid (R = ([], 120)) := HQ.out.trans (if_pos rfl)
    go_wp2
    go_ret2
    rw [HQ2.out]
    exact ⟨rfl, HB0.out⟩
  | true =>
  have HQa : Hid (R = _) := HQ.out.trans (if_neg (by simp))
  clear HQ
  have d1 : W0.cell? ⟨w.heap.size, 1, none⟩ = some (.string RS) := HR0.out.cell 1 rfl
  go_wp2_with fail
  refine (HS2.out _).mono ?_
  rintro e w1 ⟨rfl, hb1⟩
  have HB1 : Hid (Below W0.heap.size W0 w1) := hb1
  clear hb1 d1
  cases b2 with
  | false =>
    have HQ2 : Hid (R = ([], 121)) := HQa.out.trans (if_pos rfl)
    go_wp2
    go_ret2
    rw [HQ2.out]
    exact ⟨rfl, HB0.out.trans (HB1.out.mono HB0.out.size)⟩
  | true =>
  have HQb : Hid (R = _) := HQa.out.trans (if_neg (by simp))
  clear HQa
  have d2 : w1.cell? ⟨w.heap.size, 2, none⟩ = some (.slice af r.fs.length cf) := (HR0.out.below HB1.out).cell 2 rfl
  have HIf1 : Hid (InF (.slice af r.fs.length cf) r.fs w1) := (HIf.out.below HB0.out).below HB1.out
  have HC3 : Hid (Calls _ _ _ _ _) := HS3.out w1 w.heap.size HIf1.out.1 ((HR0.out.below HB1.out).cell 0 rfl)
  go_wp2_with fail
  refine HC3.out.mono ?_
  rintro e w2 ⟨rfl, hb2⟩
  have HB2 : Hid (Below W0.heap.size W0 w2) := bel_trans HB1.out hb2
  clear hb2 d2 HIf1 HC3 HB1
  cases b3 with
  | true =>
    have HQ2 : Hid (R = ([], 123)) := HQb.out.trans (if_pos rfl)
    go_wp2
    go_ret2
    rw [HQ2.out]
    exact ⟨rfl, HB0.out.trans (HB2.out.mono HB0.out.size)⟩
  | false =>
  have HQc : Hid (R = _) := HQb.out.trans (if_neg (by simp))
  clear HQb
  have HRx : Hid (Blk 27 w2 w.heap.size [.int .i64 r.st, .string RS, .slice af r.fs.length cf, .string BD]) := HR0.out.below HB2.out
  have HMx : Hid (Blk 52 w2 (w.heap.size + 1) [.string ME, .bool m.cl, .bool m.old, .bool m.ch, .slice sa m.sz.length cs, .slice ta m.tr.length ct]) := HM0.out.below HB2.out
  have r0 := HRx.out.cell 0 rfl
  have r1 := HRx.out.cell 1 rfl
  have r2 := HRx.out.cell 2 rfl
  have r3 := HRx.out.cell 3 rfl
  have m0 := HMx.out.cell 0 rfl
  have m1 := HMx.out.cell 1 rfl
  have m2 := HMx.out.cell 2 rfl
  have m3 := HMx.out.cell 3 rfl
  have m4 := HMx.out.cell 4 rfl
  have m5 := HMx.out.cell 5 rfl
  go_wp2_with fail
  refine (HS4.out _).mono ?_
  rintro e w3 ⟨rfl, hb3⟩
  have HB3 : Hid (Below W0.heap.size W0 w3) := bel_trans HB2.out hb3
  clear hb3 r0 r1 r2 r3 m0 m1 m2 m3 m4 m5 HRx HMx HB2
  cases b4 with
  | true =>
    have HQ2 : Hid (R = ([], 123)) := HQc.out.trans (if_pos rfl)
    go_wp2
    go_ret2
    rw [HQ2.out]
    exact ⟨rfl, HB0.out.trans (HB3.out.mono HB0.out.size)⟩
  | false =>
  have HQd : Hid (R = _) := HQc.out.trans (if_neg (by simp))
  clear HQc
  have hbs := beh_sum r m (by omega)
  have hss : sumF (r.fs ++ behF r m) ≤ 4000000 := by rw [sumF_app]; omega
  have hll : r.fs.length + (behF r m).length ≤ 2147483648 := by omega
  generalize hBH : behF r m = BH at *
  clear hBH hbs
  have HCc : Hid (∀ (a4 : Option Addr) (c4 : Nat) (b : Nat) (W : World), InF (.slice af r.fs.length cf) r.fs W → InF (.slice a4 BH.length c4) BH W → W.cell? ⟨b, 0, none⟩ = some (.slice af r.fs.length cf) → W.cell? ⟨b, 1, none⟩ = some (.slice a4 BH.length c4) → Calls Tryz.prog 50 #[.slice (some ⟨b, 0, none⟩) 2 2] W fun e w' => ∃ v, e = .returned v ∧ OwnF 47 (World.heap W).size v (r.fs ++ BH) w' ∧ Below (World.heap W).size W w') := fun a4 c4 b W h1 h2 h3 h4 => Concat_two _ _ r.fs BH b W h1 h2 hll h3 h4
  have HPr : Hid (∀ v W, RdF v (r.fs ++ BH) W → Tab W → Calls Tryz.prog 49 #[v] W fun e w' => e = .returned (.tuple #[.string (str (printT (r.fs ++ BH)).1), .int .i64 (printT (r.fs ++ BH)).2]) ∧ Below (World.heap W).size W w') := fun v W h t => Print_any v (r.fs ++ BH) hss W h t
  have hpl := printT_len (r.fs ++ BH)
  have hpl2 : (printT (r.fs ++ BH)).1.length ≤ 8000000 := by omega
  clear hss hpl
  generalize r.fs ++ BH = TT at *
  generalize hPT : printT TT = PT at *
  obtain ⟨P1, P2⟩ := PT
  dsimp only at HPr HQd hpl2
  clear hPT
  obtain ⟨P1s, hP1s⟩ : ∃ P1s, P1s = str P1 := ⟨_, rfl⟩
  rw [← hP1s] at HPr
  have HP1 : Hid (P1s = str P1) := hP1s
  have hP1z : P1s.size ≤ 8000000 := by rw [hP1s, str_size]; exact hpl2
  clear hP1s hpl2
  have HX : Hid (∀ W, Below W0.heap.size W0 W → (Below w.heap.size w W ∧ Pow W ∧ Tab W ∧ InF (.slice af r.fs.length cf) r.fs W) ∧ (W.cell? ⟨w.heap.size, 0, none⟩ = some (.int .i64 r.st) ∧ W.cell? ⟨w.heap.size, 1, none⟩ = some (.string RS) ∧ W.cell? ⟨w.heap.size, 2, none⟩ = some (.slice af r.fs.length cf) ∧ W.cell? ⟨w.heap.size, 3, none⟩ = some (.string BD) ∧ W.cell? ⟨w.heap.size + 1, 0, none⟩ = some (.string ME) ∧ W.cell? ⟨w.heap.size + 1, 1, none⟩ = some (.bool m.cl) ∧ W.cell? ⟨w.heap.size + 1, 2, none⟩ = some (.bool m.old) ∧ W.cell? ⟨w.heap.size + 1, 3, none⟩ = some (.bool m.ch) ∧ W.cell? ⟨w.heap.size + 1, 4, none⟩ = some (.slice sa m.sz.length cs) ∧ W.cell? ⟨w.heap.size + 1, 5, none⟩ = some (.slice ta m.tr.length ct))) := fun W hW => by
    have hb := HB0.out.trans (hW.mono HB0.out.size)
    have h1 := HR0.out.below hW
    have h2 := HM0.out.below hW
    exact ⟨⟨hb, HP.out.below hb (Nat.le_refl _), HT.out.below hb (Nat.le_refl _), HIf.out.below hb⟩, h1.cell 0 rfl, h1.cell 1 rfl, h1.cell 2 rfl, h1.cell 3 rfl, h2.cell 0 rfl, h2.cell 1 rfl, h2.cell 2 rfl, h2.cell 3 rfl, h2.cell 4 rfl, h2.cell 5 rfl⟩
  have HBn : Hid (Below W0.heap.size W0 w3.drew) := HB3.out.drew
  have HO4 : Hid True := trivial
  have HO5 : Hid True := trivial
  obtain ⟨r0, r1, r2, r3, m0, m1, m2, m3, m4, m5⟩ := (HX.out _ HB3.out).2
  obtain ⟨d0, d1, d2, d3, n0, n1, n2, n3, n4, n5⟩ := (HX.out _ HBn.out).2
  go_wp2_with fail
  go_region_law (first
    | (go_simp; go_at_call 51; refine (HS5.out _ (HX.out _ HBn.out).1.2.1).mono ?_; rintro e w4 ⟨v4, rfl, ho4, hb4⟩; obtain ⟨a4, c4, rfl⟩ := ownF_form ho4; have HO4 : Hid (OwnF 47 _ (.slice a4 BH.length c4) BH w4) := ho4; have HBn : Hid (Below W0.heap.size W0 w4) := bel_trans HBn.out hb4; have f2 : w4.cell? ⟨w.heap.size, 2, none⟩ = some (.slice af r.fs.length cf) := (HX.out _ HBn.out).2.2.2.1; clear ho4 hb4; dsimp only)
    | (go_simp; go_at_call 50; refine (HCc.out a4 c4 _ _ ((HX.out _ HBn.out).1.2.2.2.below ((Below.refl _ _).alloc (Nat.le_refl _) _)) (HO4.out.inF.below ((Below.refl _ _).alloc (Nat.le_refl _) _)) (by simp) (by simp)).mono ?_; rintro e w5 ⟨v5, rfl, ho5, hb5⟩; obtain ⟨a5, c5, rfl⟩ := ownF_form ho5; have HO5 : Hid (OwnF 47 _ (.slice a5 TT.length c5) TT w5) := ho5; have HBn : Hid (Below W0.heap.size W0 w5) := bel_trans (bel_trans HBn.out ((Below.refl _ _).alloc (Nat.le_refl _) _)) hb5; clear ho5 hb5; dsimp only)
    | (go_simp; go_at_call 49; refine (HPr.out _ _ HO5.out.rd (HX.out _ HBn.out).1.2.2.1).mono ?_; rintro e w6 ⟨rfl, hb6⟩; have HBn : Hid (Below W0.heap.size W0 w6) := bel_trans HBn.out hb6; clear hb6; dsimp only))
  all_goals
    go_simp
    clear r0 r1 r2 r3 m0 m1 m2 m3 m4 m5 d0 d1 d2 d3 n0 n1 n2 n3 n4 n5 HO4 HO5 HCc HPr HB3
    obtain ⟨q0, q1, _, _, _, _, _, _, _, _⟩ := (HX.out _ HBn.out).2
    have HBw : Hid (Below w.heap.size w _) := (HX.out _ HBn.out).1.1
    have HPw : Hid (Pow _) := (HX.out _ HBn.out).1.2.1
    by_cases hz : P2 = 0
    case neg =>
      have hz1 : (P2 != 0) = true := by simp [hz]
      have HQ2 : Hid (R = ([], P2)) := HQd.out.trans (if_pos hz)
      clear hz
      go_wp2
      go_ret2
      rw [HQ2.out]
      exact ⟨rfl, HBw.out⟩
    subst hz
    have HQ2 : Hid (R = (hdP r P1, 0)) := HQd.out.trans (if_neg (fun h => h rfl))
    have HRe : Hid (∀ W, Calls _ _ _ W _) := fun W => Reason_any r.st W
    have HDg : Hid (∀ W, Pow W → Calls _ _ _ W _) := fun W h => Digits_any r.st hn.1 hn.2 W h
    have hdz : (str (Lib.itoa r.st)).size ≤ 21 := by rw [str_size]; exact Lib.itoa_length_le r.st hn.1 hn.2
    have hrz : (str (rsL r.st)).size ≤ 40 := by rw [str_size]; exact rsL_len r.st
    have hRz : RS.size ≤ 1048576 := by rw [← HRS.out, str_size]; exact hrl
    have HEa : r.rs = [] → Hid (str (hdP r P1) = (⟨#[72, 84, 84, 80, 47, 49, 46, 49, 32]⟩ : ByteArray) ++ str (Lib.itoa r.st) ++ ⟨#[32]⟩ ++ str (rsL r.st) ++ ⟨#[13, 10]⟩ ++ P1s ++ ⟨#[13, 10]⟩) := fun h => (by
      rw [HP1.out]
      unfold hdP
      rw [if_pos h]
      simp only [← str_app]
      rfl : _ = _)
    have HEb : r.rs ≠ [] → Hid (str (hdP r P1) = (⟨#[72, 84, 84, 80, 47, 49, 46, 49, 32]⟩ : ByteArray) ++ str (Lib.itoa r.st) ++ ⟨#[32]⟩ ++ RS ++ ⟨#[13, 10]⟩ ++ P1s ++ ⟨#[13, 10]⟩) := fun h => (by
      rw [HP1.out, ← HRS.out]
      unfold hdP
      rw [if_neg h]
      simp only [← str_app]
      rfl : _ = _)
    have hme : r.rs = [] ∧ RS.toList.isEmpty = true ∨ r.rs ≠ [] ∧ RS.toList.isEmpty = false := by
      rw [← HRS.out]
      by_cases h : r.rs = []
      · exact .inl ⟨h, empty_of (by rw [h]; rfl)⟩
      · exact .inr ⟨h, nonempty_of (by rw [str_size]; exact fun e => h (List.length_eq_zero_iff.1 e))⟩
    generalize str (Lib.itoa r.st) = DG at *
    generalize str (rsL r.st) = RE at *
    have hk9 : (⟨#[72, 84, 84, 80, 47, 49, 46, 49, 32]⟩ : ByteArray).size = 9 := rfl
    rcases hme with ⟨h1, h2⟩ | ⟨h1, h2⟩
    · have HE := HEa h1
      clear HEa HEb h1
      go_wp2_with fail
      refine (HRe.out _).mono ?_
      rintro e w7 ⟨rfl, hw7⟩
      rw [hw7]
      clear hw7
      go_wp2_with fail
      refine (HDg.out _ HPw.out).mono ?_
      rintro e w8 ⟨rfl, hb8⟩
      have HB8 : Hid (Below w.heap.size w w8) := bel_trans HBw.out hb8
      clear hb8
      have t1 : 9 + DG.size ≤ 9223372036854775807 := by omega
      have t2 : 9 + DG.size + 1 ≤ 9223372036854775807 := by omega
      have t3 : 9 + DG.size + 1 + RE.size ≤ 9223372036854775807 := by omega
      have t4 : 9 + DG.size + 1 + RE.size + 2 ≤ 9223372036854775807 := by omega
      have t5 : 9 + DG.size + 1 + RE.size + 2 + P1s.size ≤ 9223372036854775807 := by omega
      have t6 : 9 + DG.size + 1 + RE.size + 2 + P1s.size + 2 ≤ 9223372036854775807 := by omega
      go_wp2
      go_ret2
      rw [HQ2.out]
      refine ⟨?_, HB8.out⟩
      rw [HE.out]
      rfl
    · have HE := HEb h1
      clear HEa HEb h1
      go_wp2_with fail
      refine (HDg.out _ HPw.out).mono ?_
      rintro e w8 ⟨rfl, hb8⟩
      have HB8 : Hid (Below w.heap.size w w8) := bel_trans HBw.out hb8
      clear hb8
      go_wp2
      go_ret2
      rw [HQ2.out]
      refine ⟨?_, HB8.out⟩
      rw [HE.out]
      rfl
end Ms
end Go.Proofs.YtdcfhnbagldilaaGreatDoor
